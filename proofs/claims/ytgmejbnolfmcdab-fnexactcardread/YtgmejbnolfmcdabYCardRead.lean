/-
  The walk of the exact law on CardRead.
-/
import Derived.Test.YtgmejbnolfmcdabQ4
import Derived.Test.YtgmejbnolfmcdabQ6
import Derived.Test.YtgmejbnolfmcdabBK
namespace Go.Proofs.Ytgmejbnolfmcdab.YCardRead
open Go.RowKit
open Go.Proofs.Ytgmejbnolfmcdab.C0 Go.Proofs.Ytgmejbnolfmcdab.HB
open Go.Proofs.Ytgmejbnolfmcdab.N0 (Cd cdV cardB pinB)
set_option maxRecDepth 100000 in
set_option maxHeartbeats 3200000 in
theorem walk (a : ByteArray) (w : World) (z_a : a.size ≤ maxLen) :
    Calls Try.prog 4 #[.string a] w fun e w' => e = .returned (.bool true) ∧ Below w.heap.size w w' := by
  have m_a := z_a
  unfold maxLen at m_a
  by_cases g_a : 1048576 < a.size
  · go_enter Try.func4, Try.ntmps4
    go_wp2
    go_ret
    exact ⟨rfl, Below.refl _ _⟩
  have HE : Hid (∀ o W, Calls Try.prog 11 #[P1.coV o, P1.coV o] W fun e w' => e = .returned (.bool true) ∧ Below W.heap.size W w') := fun o W => P1.eqOut_same o W
  go_enter Try.func4, Try.ntmps4
  go_wp2_with fail
  have HS : Hid (∀ W, Calls Try.prog 9 #[.string a] W fun e w' => e = .returned (P1.coV (N4.readR a)) ∧ Below W.heap.size W w') := fun W => Q4.read_spec a W z_a
  have HI : Hid (∀ W, Calls Try.prog 10 #[.string a] W fun e w' => e = .returned (P1.coV (N4.readR a)) ∧ Below W.heap.size W w') := fun W => Q6.read_impl a W z_a
  generalize N4.readR a = o at *
  have HQ : Hid _ := HE.out o
  clear HE
  obtain ⟨⟨i2, e2, p2, t2, x2, d2⟩, tx2, k2⟩ := o
  unfold P1.coV at HS HI HQ
  dsimp only at HS HI HQ
  refine (HS.out _).mono ?_
  rintro e w2 ⟨rfl, hb⟩
  have B2 : Hid (Below w.heap.size w w2) := hb
  clear hb
  go_wp2_with fail
  refine (HI.out _).mono ?_
  rintro e w3 ⟨rfl, hb⟩
  have kO := carry (heap_alloc_new w2 (.cells #[.int .i64 i2, .int .i64 e2, .string p2, .int .i64 t2, .int .i64 x2, .string d2, .string tx2, .int .i64 k2] 34)) hb
  try clear KO
  try clear o0 o1 o2 o3 o4 o5 o6 o7 of
  obtain ⟨o0, o1, o2, o3, o4, o5, o6, o7, of⟩ := BK.blk8 kO
  have KO : Hid _ := kO
  clear kO
  have B3 : Hid (Below w.heap.size w w3) := bel2 (B2.out.alloc B2.out.size _) hb
  clear hb
  have lo := lt_some KO.out
  go_wp2_with fail
  refine (HQ.out _).mono ?_
  rintro e w9 ⟨rfl, hb⟩
  have B9 : Hid (Below w.heap.size w w9) := bel2 (B3.out.alloc B3.out.size _) hb
  clear hb
  go_wp2
  go_ret
  exact ⟨rfl, B9.out⟩
end Go.Proofs.Ytgmejbnolfmcdab.YCardRead
