/-
  The walk of the exact law on ChannelNew.
-/
import Derived.Test.YteehgicnfageiaaDoorR3
namespace Go.Proofs.YteehgicnfageiaaDoor.YChannelNew
open Go.RowKit
open Go.Proofs.YteehgicnfageiaaDoor.C0 Go.Proofs.YteehgicnfageiaaDoor.HB
open Go.Proofs.YteehgicnfageiaaDoor.R0
set_option maxRecDepth 100000 in
set_option maxHeartbeats 3200000 in
theorem walk (a b c : ByteArray) (w : World) (hL : K2.Laid w) (z_a : a.size ≤ maxLen) (z_b : b.size ≤ maxLen) (z_c : c.size ≤ maxLen) :
    Calls Tryd.prog 5 #[.string a, .string b, .string c] w fun e w' => e = .returned (.bool true) ∧ Below w.heap.size w w' := by
  have m_a := z_a
  unfold maxLen at m_a
  have m_b := z_b
  unfold maxLen at m_b
  have m_c := z_c
  unfold maxLen at m_c
  by_cases g_a : 1048576 < a.size
  · go_enter Tryd.func5, Tryd.ntmps5
    go_wp2
    go_ret
    exact ⟨rfl, Below.refl _ _⟩
  by_cases g_b : 1048576 < b.size
  · go_enter Tryd.func5, Tryd.ntmps5
    go_wp2
    go_ret
    exact ⟨rfl, Below.refl _ _⟩
  by_cases g_c : 1048576 < c.size
  · go_enter Tryd.func5, Tryd.ntmps5
    go_wp2
    go_ret
    exact ⟨rfl, Below.refl _ _⟩
  have hLH : Hid (K2.Laid w) := hL
  clear hL
  have HE : Hid (∀ o W, Calls Tryd.prog 39 #[R1.hoV o, R1.hoV o] W fun e w' => e = .returned (.bool true) ∧ Below W.heap.size W w') := fun o W => R1.eqOut_same o W
  go_enter Tryd.func5, Tryd.ntmps5
  go_wp2_with fail
  have HS : Hid (∀ W, Calls Tryd.prog 33 #[.string a, .string b, .string c] W fun e w' => e = .returned (R1.hoV (R2.newH a b c)) ∧ Below W.heap.size W w') := fun W => R2.new_spec a b c W z_a z_b z_c
  have HI : Hid (∀ W, K2.Laid W → Calls Tryd.prog 29 #[.string a, .string b, .string c] W fun e w' => e = .returned (R1.hoV (R2.newH a b c)) ∧ Below W.heap.size W w') := fun W hW => R3.new_impl a b c W hW z_a z_b z_c
  generalize R2.newH a b c = o at *
  have HQ : Hid _ := HE.out o
  clear HE
  obtain ⟨⟨key2, s2, e2⟩, tx2, k2⟩ := o
  unfold R1.hoV at HS HI HQ
  dsimp only at HS HI HQ
  refine (HS.out _).mono ?_
  rintro e w2 ⟨rfl, hb⟩
  have B2 : Hid (Below w.heap.size w w2) := hb
  clear hb
  go_wp2_with fail
  refine (HI.out _ (hLH.out.below (B2.out.alloc B2.out.size _))).mono ?_
  rintro e w3 ⟨rfl, hb⟩
  have kO := carry (heap_alloc_new w2 (.cells #[.string key2, .int .i64 s2, .int .i64 e2, .string tx2, .int .i64 k2] 51)) hb
  try clear KO
  try clear o0 o1 o2 o3 o4 of
  obtain ⟨o0, o1, o2, o3, o4, of⟩ := R1.blk5f kO
  have KO : Hid _ := kO
  clear kO
  have B3 : Hid (Below w.heap.size w w3) := bel2 (B2.out.alloc B2.out.size _) hb
  clear hb
  have lo := lt_some KO.out
  go_wp2_with fail
  refine (HQ.out _).mono ?_
  rintro e w9 ⟨rfl, hb⟩
  have B9 : Hid (Below w.heap.size w w9) := bel2 (B3.out.alloc B3.out.size _) hb
  clear hb
  go_wp2
  go_ret
  exact ⟨rfl, B9.out⟩
end Go.Proofs.YteehgicnfageiaaDoor.YChannelNew
