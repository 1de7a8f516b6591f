/-
  The walk of the exact law on Split.
-/
import Derived.Test.YtianmmonkllhpaaDoorL7
import Derived.Test.YtianmmonkllhpaaDoorSM
namespace Go.Proofs.YtianmmonkllhpaaDoor.YSplit
open Go.RowKit
open Go.Proofs.YtianmmonkllhpaaDoor.C0 Go.Proofs.YtianmmonkllhpaaDoor.HB Go.Proofs.YtianmmonkllhpaaDoor.SH Go.Proofs.YtianmmonkllhpaaDoor.SI Go.Proofs.YtianmmonkllhpaaDoor.SM Go.Proofs.YtianmmonkllhpaaDoor.Mk
open Go.Proofs.YtianmmonkllhpaaDoor.K2 (Laid)
open Go.Proofs.YtianmmonkllhpaaDoor.ST (splitR splitL splitOk splitL_length)
theorem splitR_len (secret salt : ByteArray) (need cards : Int) : (splitR secret need cards salt).length ≤ 6 := by
  unfold splitR
  split
  · rename_i h
    obtain ⟨_, h2⟩ := Bool.and_eq_true_iff.1 h
    obtain ⟨h2, _⟩ := Bool.and_eq_true_iff.1 h2
    have := of_decide_eq_true h2
    rw [splitL_length]
    omega
  · simp
set_option maxRecDepth 100000 in
set_option maxHeartbeats 1600000 in
theorem walk (a0 : ByteArray) (a1 a2 : Int) (a3 : ByteArray) (w : World) (hL : Laid w) (w0 : a0.size ≤ maxLen) (w3 : a3.size ≤ maxLen) :
    Calls Tryd.prog 4 #[.string a0, .int .i64 a1, .int .i64 a2, .string a3] w fun e w' => e = .returned (.bool true) ∧ Below w.heap.size w w' := by
  have m0 := w0
  have m3 := w3
  unfold maxLen at m0 m3
  by_cases g0 : 1048576 < a0.size
  · go_enter Tryd.func4, Tryd.ntmps4
    go_wp2
    go_ret
    exact ⟨rfl, Below.refl _ _⟩
  by_cases g3 : 1048576 < a3.size
  · go_enter Tryd.func4, Tryd.ntmps4
    go_wp2
    go_ret
    exact ⟨rfl, Below.refl _ _⟩
  have HI : Hid (∀ W, Laid W → Calls Tryd.prog 6 #[.string a0, .int .i64 a1, .int .i64 a2, .string a3] W fun e w' => ∃ a cap, e = .returned (.slice a (splitR a0 a1 a2 a3).length cap) ∧ OShares W.heap.size w' (.slice a (splitR a0 a1 a2 a3).length cap) (splitR a0 a1 a2 a3) ∧ Below W.heap.size W w') := fun W hW => L7.split_impl a0 a3 a1 a2 W w0 w3 hW
  have HS : Hid (∀ W, Calls Tryd.prog 12 #[.string a0, .int .i64 a1, .int .i64 a2, .string a3] W fun e w' => ∃ a cap, e = .returned (.slice a (splitR a0 a1 a2 a3).length cap) ∧ OShares W.heap.size w' (.slice a (splitR a0 a1 a2 a3).length cap) (splitR a0 a1 a2 a3) ∧ Below W.heap.size W w') := fun W => J7.split_any a0 a3 a1 a2 W w0 w3
  have hR := splitR_len a0 a3 a1 a2
  generalize splitR a0 a1 a2 a3 = R at *
  go_enter Tryd.func4, Tryd.ntmps4
  go_wp2_with fail
  refine (HS.out _).mono ?_
  rintro e W1 ⟨v1, c1, rfl, ho1, hb1⟩
  have z1 : ∀ g, (Value.slice v1 R.length c1).ownBlock = some g → g < W1.heap.size := fun g hg => (ho1.lt g hg).2
  go_wp2_with fail
  refine (HI.out _ (hL.below hb1)).mono ?_
  rintro e W2 ⟨v2, c2, rfl, ho2, hb2⟩
  have z2 : ∀ g, (Value.slice v2 R.length c2).ownBlock = some g → W1.heap.size ≤ g ∧ g < W2.heap.size := fun g hg => ho2.lt g hg
  have b2 := bel2 hb1 hb2
  go_wp2_with fail
  refine (eqShares_any _ _ R _ ho2.shares (ho1.shares.below hb2)).mono ?_
  rintro e W3 ⟨rfl, hb3⟩
  have b3 := bel2 b2 hb3
  go_wp2_with fail
  refine (markShares_any W1.heap.size 1 v2 c2 R _ (ho2.below hb3) (by omega) (by omega)).mono ?_
  rintro e W4 ⟨rfl, ho4, hw4⟩
  have b4 : Below w.heap.size w W4 := b3.trans (hw4.below b3.size (fun g hg => Nat.le_trans hb1.size (z2 g hg).1))
  have HT1 : Hid (Shares W4 (.slice v1 R.length c1) R) := ((ho1.shares.below hb2).below hb3).touch hw4 (fun g hg hs => by have h1 := z1 g hg; have h2 := (z2 g hs).1; omega)
  have hml := marksP_length R.length 1
  have HO4 : Hid (OShares W1.heap.size W4 (.slice v2 R.length c2) (marksP 1 R.length)) := ho4
  have HB4 : Hid (Below w.heap.size w W4) := b4
  have hq : ¬ ((1 + R.length * 2 : Nat) : Int) < 0 := by omega
  have hHeld : Hid (∀ W, Shares W (.slice v2 R.length c2) (marksP 1 R.length) → Calls Tryd.prog 24 #[.slice v2 R.length c2, .int .i64 1] W fun e w' => e = .returned (.int .i64 ((1 + R.length * 2 : Nat) : Int)) ∧ Below W.heap.size W w') := fun W hW => heldShares_any 1 R.length _ W hW (by omega) (by omega)
  generalize 1 + R.length * 2 = mk at *
  clear ho1 ho2 ho4 hw4 hb1 hb2 hb3 b2 b3 b4 z1 z2
  go_wp2_with fail
  refine (hHeld.out _ HO4.out.shares).mono ?_
  rintro e W5 ⟨rfl, hb5⟩
  have b5 := bel2 HB4.out hb5
  have hT5 := HT1.out.below hb5
  go_wp2_with fail
  refine (HI.out _ (hL.below b5)).mono ?_
  rintro e W6 ⟨v6, c6, rfl, ho6, hb6⟩
  have b6 := bel2 b5 hb6
  go_wp2_with fail
  refine (eqShares_any _ _ R _ ho6.shares (hT5.below hb6)).mono ?_
  rintro e W7 ⟨rfl, hb7⟩
  have b7 := bel2 b6 hb7
  have HT7 : Hid (Shares W7 (.slice v2 R.length c2) (marksP 1 R.length)) := ((HO4.out.shares.below hb5).below hb6).below hb7
  have HB7 : Hid (Below w.heap.size w W7) := b7
  clear hT5 b5 b6 b7 hb5 hb6 hb7 ho6
  go_wp2_with fail
  refine (hHeld.out _ HT7.out).mono ?_
  rintro e W8 ⟨rfl, hb8⟩
  have HB8 : Hid (Below w.heap.size w W8) := bel2 HB7.out hb8
  clear hb8
  go_wp2
  go_ret
  exact ⟨rfl, HB8.out⟩
end Go.Proofs.YtianmmonkllhpaaDoor.YSplit
