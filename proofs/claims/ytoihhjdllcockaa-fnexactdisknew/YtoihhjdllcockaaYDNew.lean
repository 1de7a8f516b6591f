/-
  The law on DiskNew, walked.
-/
import Derived.Test.YtoihhjdllcockaaO1
import Derived.Test.YtoihhjdllcockaaT4
namespace Go.Proofs.Ytoihhjdllcockaa.YDNew
open Go.RowKit
open Go.Proofs.Ytoihhjdllcockaa.C0 Go.Proofs.Ytoihhjdllcockaa.S0 Go.Proofs.Ytoihhjdllcockaa.S1 Go.Proofs.Ytoihhjdllcockaa.S2 Go.Proofs.Ytoihhjdllcockaa.S3 Go.Proofs.Ytoihhjdllcockaa.S4 Go.Proofs.Ytoihhjdllcockaa.S6 Go.Proofs.Ytoihhjdllcockaa.O1 Go.Proofs.Ytoihhjdllcockaa.T2 Go.Proofs.Ytoihhjdllcockaa.T4 Go.Proofs.Ytoihhjdllcockaa.Mk
theorem newOf_len (n : Int) : (newOf n).length ≤ 64 := by
  unfold newOf
  split
  · rw [List.length_replicate]; omega
  · simp
theorem both (n : Int) : ∃ (l : List ByteArray) (p : List Pend), l.length ≤ 64 ∧ p.length ≤ 64 ∧ (∀ w, Calls Try.prog 22 #[.int .i64 n] w fun e w' => DTold w l p e w') ∧ ∀ w, Calls Try.prog 21 #[.int .i64 n] w fun e w' => DTold w l p e w' :=
  ⟨newOf n, [], newOf_len n, by simp, new_spec n, new_impl n⟩
set_option maxRecDepth 100000 in
set_option maxHeartbeats 1600000 in
theorem walk (n : Int) (w : World) (_hn : -9223372036854775808 ≤ n ∧ n ≤ 9223372036854775807) :
    Calls Try.prog 5 #[.int .i64 n] w fun e w' => e = .returned (.bool true) ∧ Below w.heap.size w w' := by
  obtain ⟨l, p, hl, hp, hspec, himpl⟩ := both n
  go_enter Try.func5, Try.ntmps5
  go_wp2_with fail
  refine (hspec _).mono ?_
  rintro e w1 ⟨a, c, a', c', rfl, o1, b1⟩
  have R1 := o1.rows
  have Z1 : Hid (w.heap.size ≤ w1.heap.size) := b1.size
  go_wp2_with fail
  refine (himpl _).mono ?_
  rintro e w2 ⟨f, d, f', d', rfl, g2, b2⟩
  rw [asz] at g2
  have R2 := g2.rows
  have k2 := carry (heap_alloc_new w1 _) b2
  have o2 := (o1.below (albel _ _)).below b2
  have B2 := bel2 (bel2 b1 (albel _ _)) b2
  obtain ⟨q0, q1, -, q9⟩ := blk2 k2
  go_wp2_with fail
  refine (eqDisk_any _ _ _ _ l p _ (g2.below (albel _ _)).1.strs (g2.below (albel _ _)).2.pends (o2.below (albel _ _)).1.strs (o2.below (albel _ _)).2.pends).mono ?_
  rintro e w3 ⟨rfl, b3⟩
  have k3 := carry (carryA k2 _) b3
  have j3 := carry (heap_alloc_new w2 _) b3
  have o3 := (o2.below (albel _ _)).below b3
  have g3 := (g2.below (albel _ _)).below b3
  have B3 := bel2 (bel2 B2 (albel _ _)) b3
  clear q0 q1 o1 o2 g2 b1 b2 b3 k2 B2
  obtain ⟨r0, r1, -, -⟩ := blk2 j3
  go_wp2_with fail
  refine (markDisk_any (w1.heap.size + 1) 1 _ _ _ _ l p _ g3 (by omega) (by omega)).mono ?_
  rintro e w4 ⟨rfl, g4, t4⟩
  have k4 := carryW k3 t4 (fun h => by have := R2 _ h; omega)
  have j4 := carryW j3 t4 (fun h => by have := R2 _ h; omega)
  have o4 := o3.wrote t4 (fun g h h' => by have := R2 _ h; have := R1 _ h'; omega)
  have B4 := belW B3 t4 (fun g h => by have := R2 _ h; have := Z1.out; omega)
  clear r0 r1 k3 j3 o3 g3 t4 B3
  obtain ⟨r0, r1, -, -⟩ := blk2 j4
  go_wp2_with fail
  refine (heldDisk_any 1 l.length p.length _ _ _ g4.1.strs g4.2.pends (by omega) (by omega)).mono ?_
  rintro e w5 ⟨rfl, b5⟩
  have k5 := carry k4 b5
  have j5 := carry j4 b5
  have o5 := o4.below b5
  have g5 := g4.below b5
  have B5 := bel2 B4 b5
  have hd5 : ¬ ((1 + l.length + p.length * 2 : Nat) : Int) < 0 := by omega
  clear r0 r1 k4 j4 o4 g4 b5 B4
  go_wp2_with fail
  refine (himpl _).mono ?_
  rintro e w6 ⟨y, z, y', z', rfl, h6, b6⟩
  have k6 := carry k5 b6
  have j6 := carry j5 b6
  have o6 := o5.below b6
  have g6 := g5.below b6
  have B6 := bel2 B5 b6
  clear k5 j5 o5 g5 b6 B5
  obtain ⟨q0, q1, -, q9⟩ := blk2 k6
  go_wp2_with fail
  refine (eqDisk_any _ _ _ _ l p _ (h6.below (albel _ _)).1.strs (h6.below (albel _ _)).2.pends (o6.below (albel _ _)).1.strs (o6.below (albel _ _)).2.pends).mono ?_
  rintro e w7 ⟨rfl, b7⟩
  have j7 := carry (carryA j6 _) b7
  have g7 := (g6.below (albel _ _)).below b7
  have B7 := bel2 (bel2 B6 (albel _ _)) b7
  clear q0 q1 q9 k6 j6 o6 g6 b7 B6 h6
  obtain ⟨r0, r1, -, -⟩ := blk2 j7
  go_wp2_with fail
  refine (heldDisk_any 1 l.length p.length _ _ _ g7.1.strs g7.2.pends (by omega) (by omega)).mono ?_
  rintro e w8 ⟨rfl, b8⟩
  go_wp2
  go_ret
  exact ⟨rfl, bel2 B7 b8⟩
end Go.Proofs.Ytoihhjdllcockaa.YDNew
