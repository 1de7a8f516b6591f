/-
  The walk of the exact law on CardBytes.
-/
import Derived.Test.YtgmejbnolfmcdabQ2
import Derived.Test.YtgmejbnolfmcdabN1
import Derived.Test.YtgmejbnolfmcdabBK
namespace Go.Proofs.Ytgmejbnolfmcdab.YCardBytes
open Go.RowKit
open Go.Proofs.Ytgmejbnolfmcdab.C0 Go.Proofs.Ytgmejbnolfmcdab.HB
open Go.Proofs.Ytgmejbnolfmcdab.N0 (Cd cdV cardB pinB)
set_option maxRecDepth 100000 in
set_option maxHeartbeats 3200000 in
theorem walk (id ep : Int) (pin : ByteArray) (tr ix : Int) (dt : ByteArray) (w : World) (hi : -9223372036854775808 ≤ id ∧ id ≤ 9223372036854775807) (zp : pin.size ≤ maxLen) (zd : dt.size ≤ maxLen) :
    Calls Try.prog 3 #[.agg #[.int .i64 id, .int .i64 ep, .string pin, .int .i64 tr, .int .i64 ix, .string dt]] w fun e w' => e = .returned (.bool true) ∧ Below w.heap.size w w' := by
  have KB : Hid _ := heap_alloc_new w (.cells #[.int .i64 id, .int .i64 ep, .string pin, .int .i64 tr, .int .i64 ix, .string dt] 25)
  have B0 : Hid _ := albel w (.cells #[.int .i64 id, .int .i64 ep, .string pin, .int .i64 tr, .int .i64 ix, .string dt] 25)
  have HTO : Hid (∀ W, Calls Try.prog 7 #[.agg #[.int .i64 id, .int .i64 ep, .string pin, .int .i64 tr, .int .i64 ix, .string dt]] W fun e w' => e = .returned (.agg #[.int .i64 id, .int .i64 ep, .string pin, .int .i64 tr, .int .i64 ix, .string dt]) ∧ Below W.heap.size W w') := fun W => N1.toCard_any ⟨id, ep, pin, tr, ix, dt⟩ W
  go_enter Try.func3, Try.ntmps3
  go_wp2_with fail
  refine (N1.szCard_any ⟨id, ep, pin, tr, ix, dt⟩ 1048576 _ zp zd (by omega) (by omega)).mono ?_
  rintro e w1 ⟨r, rfl, hr, hb⟩
  unfold N1.okC at hr
  dsimp only at hr
  have kB := carry KB.out hb
  clear KB
  try clear b0 b1 b2 b3 b4 b5 bf
  obtain ⟨b0, b1, b2, b3, b4, b5, bf⟩ := BK.blk6 kB
  have KB : Hid _ := kB
  clear kB
  have B1 : Hid _ := bel2 B0.out hb
  clear hb B0
  by_cases h0 : r < 0
  · go_wp2
    go_ret
    exact ⟨rfl, B1.out⟩
  have hdz : dt.size ≤ 1048576 := by omega
  have hpz : pin.size ≤ 1048576 := by omega
  clear hr
  have HS : Hid (∀ W, Calls Try.prog 6 #[.agg #[.int .i64 id, .int .i64 ep, .string pin, .int .i64 tr, .int .i64 ix, .string dt]] W fun e w' => e = .returned (.string (N2.cardBytes ⟨id, ep, pin, tr, ix, dt⟩)) ∧ Below W.heap.size W w') := fun W => N2.bytes_spec ⟨id, ep, pin, tr, ix, dt⟩ W zp zd hi
  have HI : Hid (∀ W, Calls Try.prog 8 #[.agg #[.int .i64 id, .int .i64 ep, .string pin, .int .i64 tr, .int .i64 ix, .string dt]] W fun e w' => e = .returned (.string (N2.cardBytes ⟨id, ep, pin, tr, ix, dt⟩)) ∧ Below W.heap.size W w') := fun W => Q2.bytes_impl ⟨id, ep, pin, tr, ix, dt⟩ W zp zd hi
  generalize N2.cardBytes ⟨id, ep, pin, tr, ix, dt⟩ = o at *
  have ho : (o.toList == o.toList) = true := by simp
  go_wp2_with fail
  refine (HTO.out _).mono ?_
  rintro e w2 ⟨rfl, hb⟩
  have kB := carry KB.out hb
  clear KB
  try clear b0 b1 b2 b3 b4 b5 bf
  obtain ⟨b0, b1, b2, b3, b4, b5, bf⟩ := BK.blk6 kB
  have KB : Hid _ := kB
  clear kB
  have B2 : Hid (Below w.heap.size w w2) := bel2 B1.out hb
  clear hb
  go_wp2_with fail
  refine (HS.out _).mono ?_
  rintro e w3 ⟨rfl, hb⟩
  have kB := carry KB.out hb
  clear KB
  try clear b0 b1 b2 b3 b4 b5 bf
  obtain ⟨b0, b1, b2, b3, b4, b5, bf⟩ := BK.blk6 kB
  have KB : Hid _ := kB
  clear kB
  have B3 : Hid (Below w.heap.size w w3) := bel2 B2.out hb
  clear hb
  have lb := lt_some KB.out
  go_wp2_with fail
  refine (HTO.out _).mono ?_
  rintro e w4 ⟨rfl, hb⟩
  have kB := carry KB.out hb
  clear KB
  try clear b0 b1 b2 b3 b4 b5 bf
  obtain ⟨b0, b1, b2, b3, b4, b5, bf⟩ := BK.blk6 kB
  have KB : Hid _ := kB
  clear kB
  have B4 : Hid (Below w.heap.size w w4) := bel2 B3.out hb
  clear hb
  go_wp2_with fail
  refine (HI.out _).mono ?_
  rintro e w5 ⟨rfl, hb⟩
  have kB := carry KB.out hb
  clear KB
  try clear b0 b1 b2 b3 b4 b5 bf
  obtain ⟨b0, b1, b2, b3, b4, b5, bf⟩ := BK.blk6 kB
  have KB : Hid _ := kB
  clear kB
  have B5 : Hid (Below w.heap.size w w5) := bel2 B4.out hb
  clear hb
  try clear lb
  go_wp2
  go_ret
  exact ⟨rfl, B5.out⟩
end Go.Proofs.Ytgmejbnolfmcdab.YCardBytes
