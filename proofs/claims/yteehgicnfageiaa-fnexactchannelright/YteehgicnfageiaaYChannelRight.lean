/-
  The walk of the exact law on ChannelRight.
-/
import Derived.Test.YteehgicnfageiaaR1
namespace Go.Proofs.Yteehgicnfageiaa.YChannelRight
open Go.RowKit
open Go.Proofs.Yteehgicnfageiaa.C0 Go.Proofs.Yteehgicnfageiaa.HB
open Go.Proofs.Yteehgicnfageiaa.R0
set_option maxRecDepth 100000 in
set_option maxHeartbeats 3200000 in
theorem walk (key : ByteArray) (sent seen : Int) (w : World) (zk : key.size ≤ maxLen) :
    Calls Try.prog 3 #[.agg #[.string key, .int .i64 sent, .int .i64 seen]] w fun e w' => e = .returned (.bool true) ∧ Below w.heap.size w w' := by
  have KB : Hid _ := heap_alloc_new w (.cells #[.string key, .int .i64 sent, .int .i64 seen] 23)
  have B0 : Hid _ := albel w (.cells #[.string key, .int .i64 sent, .int .i64 seen] 23)
  have HTO : Hid (∀ W, Calls Try.prog 6 #[.agg #[.string key, .int .i64 sent, .int .i64 seen]] W fun e w' => e = .returned (.agg #[.string key, .int .i64 sent, .int .i64 seen]) ∧ Below W.heap.size W w') := fun W => R1.to_any ⟨key, sent, seen⟩ W
  go_enter Try.func3, Try.ntmps3
  go_wp2_with fail
  refine (R1.sz_any ⟨key, sent, seen⟩ 1048576 _ zk (by omega) (by omega)).mono ?_
  rintro e w1 ⟨r, rfl, hr, hb⟩
  unfold R1.okC at hr
  dsimp only at hr
  have kB := carry KB.out hb
  clear KB
  try clear b0 b1 b2 bf
  obtain ⟨b0, b1, b2, bf⟩ := R1.blk3f kB
  have KB : Hid _ := kB
  clear kB
  have B1 : Hid _ := bel2 B0.out hb
  clear hb B0
  by_cases h0 : r < 0
  · go_wp2
    go_ret
    exact ⟨rfl, B1.out⟩
  clear hr
  have HS : Hid (∀ W, Calls Try.prog 5 #[.agg #[.string key, .int .i64 sent, .int .i64 seen]] W fun e w' => e = .returned (.bool (chB ⟨key, sent, seen⟩)) ∧ Below W.heap.size W w') := fun W => R0.right_spec ⟨key, sent, seen⟩ W zk
  have HI : Hid (∀ W, Calls Try.prog 7 #[.agg #[.string key, .int .i64 sent, .int .i64 seen]] W fun e w' => e = .returned (.bool (chB ⟨key, sent, seen⟩)) ∧ Below W.heap.size W w') := fun W => R0.right_impl ⟨key, sent, seen⟩ W zk
  generalize chB ⟨key, sent, seen⟩ = o at *
  go_wp2_with fail
  refine (HTO.out _).mono ?_
  rintro e w2 ⟨rfl, hb⟩
  have kB := carry KB.out hb
  clear KB
  try clear b0 b1 b2 bf
  obtain ⟨b0, b1, b2, bf⟩ := R1.blk3f kB
  have KB : Hid _ := kB
  clear kB
  have B2 : Hid (Below w.heap.size w w2) := bel2 B1.out hb
  clear hb
  go_wp2_with fail
  refine (HS.out _).mono ?_
  rintro e w3 ⟨rfl, hb⟩
  have kB := carry KB.out hb
  clear KB
  try clear b0 b1 b2 bf
  obtain ⟨b0, b1, b2, bf⟩ := R1.blk3f kB
  have KB : Hid _ := kB
  clear kB
  have B3 : Hid (Below w.heap.size w w3) := bel2 B2.out hb
  clear hb
  have lb := lt_some KB.out
  go_wp2_with fail
  refine (HTO.out _).mono ?_
  rintro e w4 ⟨rfl, hb⟩
  have kB := carry KB.out hb
  clear KB
  try clear b0 b1 b2 bf
  obtain ⟨b0, b1, b2, bf⟩ := R1.blk3f kB
  have KB : Hid _ := kB
  clear kB
  have B4 : Hid (Below w.heap.size w w4) := bel2 B3.out hb
  clear hb
  go_wp2_with fail
  refine (HI.out _).mono ?_
  rintro e w5 ⟨rfl, hb⟩
  have kB := carry KB.out hb
  clear KB
  try clear b0 b1 b2 bf
  obtain ⟨b0, b1, b2, bf⟩ := R1.blk3f kB
  have KB : Hid _ := kB
  clear kB
  have B5 : Hid (Below w.heap.size w w5) := bel2 B4.out hb
  clear hb
  try clear lb
  go_wp2
  go_ret
  exact ⟨rfl, B5.out⟩
end Go.Proofs.Yteehgicnfageiaa.YChannelRight
