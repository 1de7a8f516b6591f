/-
  The specification's reading of a text: parts of the walk.
-/
import Derived.Test.YtfiabbfdnmldjaaGreatDoorPL
import Derived.Test.YtfiabbfdnmldjaaGreatDoorU9
import Derived.Test.YtfiabbfdnmldjaaGreatDoorPA
import Derived.Lib.AppendStr
namespace Go.Proofs.YtfiabbfdnmldjaaGreatDoor.V0
open Go.RowKit
open Go.Proofs.YtfiabbfdnmldjaaGreatDoor.C0 Go.Proofs.YtfiabbfdnmldjaaGreatDoor.S0 Go.Proofs.YtfiabbfdnmldjaaGreatDoor.S1 Go.Proofs.YtfiabbfdnmldjaaGreatDoor.S3 Go.Proofs.YtfiabbfdnmldjaaGreatDoor.O1 Go.Proofs.YtfiabbfdnmldjaaGreatDoor.T0 Go.Proofs.YtfiabbfdnmldjaaGreatDoor.T4 Go.Proofs.YtfiabbfdnmldjaaGreatDoor.T5 Go.Proofs.YtfiabbfdnmldjaaGreatDoor.U0 Go.Proofs.YtfiabbfdnmldjaaGreatDoor.U2 Go.Proofs.YtfiabbfdnmldjaaGreatDoor.U4 Go.Proofs.YtfiabbfdnmldjaaGreatDoor.U8 Go.Proofs.YtfiabbfdnmldjaaGreatDoor.U9
open Go.Proofs.YtfiabbfdnmldjaaGreatDoor.Dk (rightB right_iff readR sect want gath SideOk gath_length gath_end sect_read)
/-- The first sector of a side. -/
def firstN (n s : Nat) : Nat := 1 + s * halfN n
/-- What is read of a disk: its text and number, or why not. -/
def readA (ss : List ByteArray) (ps : List Pend) : AOut :=
  if rightB ss ps = false then illA 1
  else if (seenR (zeroth ss ps) (halfN ss.length * 64)).2.2.2 = 0 then
    (if SideOk ss ps (firstN ss.length (seenR (zeroth ss ps) (halfN ss.length * 64)).2.1.toNat) (seenR (zeroth ss ps) (halfN ss.length * 64)).2.2.1.toNat then
      ⟨ss, ps, ⟨(gath ss ps (firstN ss.length (seenR (zeroth ss ps) (halfN ss.length * 64)).2.1.toNat) (seenR (zeroth ss ps) (halfN ss.length * 64)).2.2.1.toNat 32).toArray⟩, (seenR (zeroth ss ps) (halfN ss.length * 64)).1, 0⟩
    else illA 5)
  else illA (seenR (zeroth ss ps) (halfN ss.length * 64)).2.2.2
/-- What a head that was seen says. -/
theorem seen_ok {x : ByteArray} {room : Nat} (h : (seenR x room).2.2.2 = 0) : ok64 (seenR x room).1 ∧ 0 ≤ (seenR x room).1 ∧ (0 ≤ (seenR x room).2.1 ∧ (seenR x room).2.1 ≤ 1) ∧ 0 ≤ (seenR x room).2.2.1 ∧ (seenR x room).2.2.1 ≤ room := by
  by_cases hc : codeU x = 0
  · by_cases ho : HeadOk x room
    · rw [seen_yes hc ho]
      have o1 := nOf_ok (C7.body x) 0
      obtain ⟨-, -, -, -, h5, h6, h7, h8⟩ := ho
      generalize nOf (R1 (C7.body x)) = m1 at *
      generalize nOf (R2 (C7.body x)) = m2 at *
      generalize nOf (R3 (C7.body x)) = m3 at *
      exact ⟨o1, h5, h6, h7, h8⟩
    · rw [seen_bad hc ho] at h; simp at h
  · rw [seen_no hc] at h; exact absurd h hc
set_option maxRecDepth 100000 in
theorem first_spec (a : Option Addr) (n cap s : Nat) (vp : Value) (w : World) (h1 : 1 ≤ n) (h2 : n ≤ 64) (hs : s ≤ 1) : Calls Tryz.prog 43 #[.agg #[.slice a n cap, vp], .int .i64 (s : Nat)] w fun e w' => e = .returned (.int .i64 (firstN n s : Nat)) ∧ Below w.heap.size w w' := by
  have hh := half_le n h2
  have k0 := heap_alloc_new w (.cells #[.slice a n cap, vp] 26)
  have hm : Hid (1 + (s : Int) * (halfN n : Int) = ((firstN n s : Nat) : Int)) := by unfold Hid firstN; simp
  have hb : (s : Int) * (halfN n : Int) ≤ 31 := by
    rcases (show s = 0 ∨ s = 1 by omega) with rfl | rfl
    · simp
    · simp; omega
  have hb0 : 0 ≤ (s : Int) * (halfN n : Int) := Int.mul_nonneg (by omega) (by omega)
  go_enter Tryz.func43, Tryz.ntmps43
  go_wp2_with fail
  refine (half_spec _ _ _ _ _ h1 h2).mono ?_
  rintro e w1 ⟨rfl, hb1⟩
  go_wp2
  go_ret
  exact ⟨ret_int hm.out, bel2 (albel _ _) hb1⟩
set_option maxRecDepth 100000 in
theorem min_spec (x y : Int) (w : World) : Calls Tryz.prog 44 #[.int .i64 x, .int .i64 y] w fun e w' => e = .returned (.int .i64 (min x y)) ∧ w' = w := by
  by_cases h : x < y
  · have hm : Hid (min x y = x) := by unfold Hid; omega
    go_enter Tryz.func44, Tryz.ntmps44
    go_wp2
    go_ret
    exact ⟨ret_int hm.out.symm, rfl⟩
  · have hm : Hid (min x y = y) := by unfold Hid; omega
    go_enter Tryz.func44, Tryz.ntmps44
    go_wp2
    go_ret
    exact ⟨ret_int hm.out.symm, rfl⟩
end Go.Proofs.YtfiabbfdnmldjaaGreatDoor.V0
