/-
  The walk of the exact law on CardPin.
-/
import Derived.Test.YtgmejbnolfmcdaaDoorP8
import Derived.Test.YtgmejbnolfmcdaaDoorQ1
import Derived.Test.YtgmejbnolfmcdaaDoorN1
import Derived.Test.YtgmejbnolfmcdaaDoorBK
namespace Go.Proofs.YtgmejbnolfmcdaaDoor.YCardPin
open Go.RowKit
open Go.Proofs.YtgmejbnolfmcdaaDoor.C0 Go.Proofs.YtgmejbnolfmcdaaDoor.HB
open Go.Proofs.YtgmejbnolfmcdaaDoor.N0 (Cd cdV cardB pinB)
set_option maxRecDepth 100000 in
set_option maxHeartbeats 3200000 in
theorem walk (id ep : Int) (pin : ByteArray) (tr ix : Int) (dt : ByteArray) (a b : ByteArray) (w : World) (hL : K2.Laid w) (hi : -9223372036854775808 ≤ id ∧ id ≤ 9223372036854775807) (zp : pin.size ≤ maxLen) (zd : dt.size ≤ maxLen) (z_a : a.size ≤ maxLen) (z_b : b.size ≤ maxLen) :
    Calls Tryd.prog 6 #[.agg #[.int .i64 id, .int .i64 ep, .string pin, .int .i64 tr, .int .i64 ix, .string dt], .string a, .string b] w fun e w' => e = .returned (.bool true) ∧ Below w.heap.size w w' := by
  have m_a := z_a
  unfold maxLen at m_a
  have m_b := z_b
  unfold maxLen at m_b
  by_cases g_a : 1048576 < a.size
  · go_enter Tryd.func6, Tryd.ntmps6
    go_wp2
    go_ret
    exact ⟨rfl, albel w _⟩
  by_cases g_b : 1048576 < b.size
  · go_enter Tryd.func6, Tryd.ntmps6
    go_wp2
    go_ret
    exact ⟨rfl, albel w _⟩
  have hLH : Hid (K2.Laid w) := hL
  clear hL
  have HE : Hid (∀ o W, Calls Tryd.prog 29 #[P1.coV o, P1.coV o] W fun e w' => e = .returned (.bool true) ∧ Below W.heap.size W w') := fun o W => P1.eqOut_same o W
  have KB : Hid _ := heap_alloc_new w (.cells #[.int .i64 id, .int .i64 ep, .string pin, .int .i64 tr, .int .i64 ix, .string dt] 51)
  have B0 : Hid _ := albel w (.cells #[.int .i64 id, .int .i64 ep, .string pin, .int .i64 tr, .int .i64 ix, .string dt] 51)
  have HTO : Hid (∀ W, Calls Tryd.prog 31 #[.agg #[.int .i64 id, .int .i64 ep, .string pin, .int .i64 tr, .int .i64 ix, .string dt]] W fun e w' => e = .returned (.agg #[.int .i64 id, .int .i64 ep, .string pin, .int .i64 tr, .int .i64 ix, .string dt]) ∧ Below W.heap.size W w') := fun W => N1.toCard_any ⟨id, ep, pin, tr, ix, dt⟩ W
  go_enter Tryd.func6, Tryd.ntmps6
  go_wp2_with fail
  refine (N1.szCard_any ⟨id, ep, pin, tr, ix, dt⟩ 1048576 _ zp zd (by omega) (by omega)).mono ?_
  rintro e w1 ⟨r, rfl, hr, hb⟩
  unfold N1.okC at hr
  dsimp only at hr
  have kB := carry KB.out hb
  clear KB
  try clear b0 b1 b2 b3 b4 b5 bf
  obtain ⟨b0, b1, b2, b3, b4, b5, bf⟩ := BK.blk6 kB
  have KB : Hid _ := kB
  clear kB
  have B1 : Hid _ := bel2 B0.out hb
  clear hb B0
  by_cases h0 : r < 0
  · go_wp2
    go_ret
    exact ⟨rfl, B1.out⟩
  have hdz : dt.size ≤ 1048576 := by omega
  have hpz : pin.size ≤ 1048576 := by omega
  clear hr
  have HS : Hid (∀ W, Calls Tryd.prog 19 #[.agg #[.int .i64 id, .int .i64 ep, .string pin, .int .i64 tr, .int .i64 ix, .string dt], .string a, .string b] W fun e w' => e = .returned (P1.coV (P2.cpR ⟨id, ep, pin, tr, ix, dt⟩ a b)) ∧ Below W.heap.size W w') := fun W => P8.cp_spec ⟨id, ep, pin, tr, ix, dt⟩ a b W z_a z_b zp zd
  have HI : Hid (∀ W, K2.Laid W → Calls Tryd.prog 10 #[.agg #[.int .i64 id, .int .i64 ep, .string pin, .int .i64 tr, .int .i64 ix, .string dt], .string a, .string b] W fun e w' => e = .returned (P1.coV (P2.cpR ⟨id, ep, pin, tr, ix, dt⟩ a b)) ∧ Below W.heap.size W w') := fun W hW => Q1.cp_impl ⟨id, ep, pin, tr, ix, dt⟩ a b W hW z_a z_b zp zd (by dsimp only; omega) hi
  generalize P2.cpR ⟨id, ep, pin, tr, ix, dt⟩ a b = o at *
  have HQ : Hid _ := HE.out o
  clear HE
  obtain ⟨⟨i2, e2, p2, t2, x2, d2⟩, tx2, k2⟩ := o
  unfold P1.coV at HS HI HQ
  dsimp only at HS HI HQ
  go_wp2_with fail
  refine (HTO.out _).mono ?_
  rintro e w2 ⟨rfl, hb⟩
  have kB := carry KB.out hb
  clear KB
  try clear b0 b1 b2 b3 b4 b5 bf
  obtain ⟨b0, b1, b2, b3, b4, b5, bf⟩ := BK.blk6 kB
  have KB : Hid _ := kB
  clear kB
  have B2 : Hid (Below w.heap.size w w2) := bel2 B1.out hb
  clear hb
  go_wp2_with fail
  refine (HS.out _).mono ?_
  rintro e w3 ⟨rfl, hb⟩
  have kB := carry KB.out hb
  clear KB
  try clear b0 b1 b2 b3 b4 b5 bf
  obtain ⟨b0, b1, b2, b3, b4, b5, bf⟩ := BK.blk6 kB
  have KB : Hid _ := kB
  clear kB
  have B3 : Hid (Below w.heap.size w w3) := bel2 B2.out hb
  clear hb
  have lb := lt_some KB.out
  go_wp2_with fail
  refine (HTO.out _).mono ?_
  rintro e w4 ⟨rfl, hb⟩
  have kB := carry (carryA KB.out (.cells #[.int .i64 i2, .int .i64 e2, .string p2, .int .i64 t2, .int .i64 x2, .string d2, .string tx2, .int .i64 k2] 30)) hb
  clear KB
  try clear b0 b1 b2 b3 b4 b5 bf
  obtain ⟨b0, b1, b2, b3, b4, b5, bf⟩ := BK.blk6 kB
  have KB : Hid _ := kB
  clear kB
  have kO := carry (heap_alloc_new w3 (.cells #[.int .i64 i2, .int .i64 e2, .string p2, .int .i64 t2, .int .i64 x2, .string d2, .string tx2, .int .i64 k2] 30)) hb
  try clear KO
  try clear o0 o1 o2 o3 o4 o5 o6 o7 of
  obtain ⟨o0, o1, o2, o3, o4, o5, o6, o7, of⟩ := BK.blk8 kO
  have KO : Hid _ := kO
  clear kO
  have B4 : Hid (Below w.heap.size w w4) := bel2 (B3.out.alloc B3.out.size _) hb
  clear hb
  go_wp2_with fail
  refine (HI.out _ (hLH.out.below B4.out)).mono ?_
  rintro e w5 ⟨rfl, hb⟩
  have kB := carry KB.out hb
  clear KB
  try clear b0 b1 b2 b3 b4 b5 bf
  obtain ⟨b0, b1, b2, b3, b4, b5, bf⟩ := BK.blk6 kB
  have KB : Hid _ := kB
  clear kB
  have kO := carry (KO.out) hb
  try clear KO
  try clear o0 o1 o2 o3 o4 o5 o6 o7 of
  obtain ⟨o0, o1, o2, o3, o4, o5, o6, o7, of⟩ := BK.blk8 kO
  have KO : Hid _ := kO
  clear kO
  have B5 : Hid (Below w.heap.size w w5) := bel2 B4.out hb
  clear hb
  try clear lb
  have lo := lt_some KO.out
  go_wp2_with fail
  refine (HQ.out _).mono ?_
  rintro e w9 ⟨rfl, hb⟩
  have B9 : Hid (Below w.heap.size w w9) := bel2 (B5.out.alloc B5.out.size _) hb
  clear hb
  go_wp2
  go_ret
  exact ⟨rfl, B9.out⟩
end Go.Proofs.YtgmejbnolfmcdaaDoor.YCardPin
