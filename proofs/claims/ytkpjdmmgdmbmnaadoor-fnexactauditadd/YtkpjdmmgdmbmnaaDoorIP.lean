/-
  The laws' own marks in rows of lines: looked for.
-/
import Derived.Test.YtkpjdmmgdmbmnaaDoorIV
namespace Go.Proofs.YtkpjdmmgdmbmnaaDoor.IP
open Go.RowKit
open Go.Proofs.YtkpjdmmgdmbmnaaDoor.C0 Go.Proofs.YtkpjdmmgdmbmnaaDoor.HB Go.Proofs.YtkpjdmmgdmbmnaaDoor.Mk
open Go.Proofs.YtkpjdmmgdmbmnaaDoor.A0 Go.Proofs.YtkpjdmmgdmbmnaaDoor.A1 Go.Proofs.YtkpjdmmgdmbmnaaDoor.A4 Go.Proofs.YtkpjdmmgdmbmnaaDoor.I1 Go.Proofs.YtkpjdmmgdmbmnaaDoor.IE Go.Proofs.YtkpjdmmgdmbmnaaDoor.IF Go.Proofs.YtkpjdmmgdmbmnaaDoor.IN Go.Proofs.YtkpjdmmgdmbmnaaDoor.IV
open Go.Proofs.YtkpjdmmgdmbmnaaDoor.A6 (OIRow ci ci_length drewN_below add0)
def RelH (k : Nat) (l : List Ln) (w : World) (q i : Value) (wr : World) : Prop := ∃ j : Nat, j ≤ l.length ∧ i = .int .i64 j ∧ q = .int .i64 (upK l k j : Nat) ∧ Below w.heap.size w wr
set_option maxRecDepth 100000 in
set_option maxHeartbeats 3200000 in
theorem heldLines_any (k : Nat) (v : Value) (l : List Ln) (w : World) (hv : LRow w v (mkL l k)) (h1 : 0 < k) (h2 : k < 1000000000000) (hl : l.length ≤ 1048576) (hcz : ∀ x ∈ l, x.cards.length ≤ 1048576) :
    Calls Tryd.prog 93 #[v, .int .i64 k] w fun e w' => e = .returned (.int .i64 (upK l k l.length : Nat)) ∧ Below w.heap.size w w' := by
  have H0 : Hid (RelH k l w (.int .i64 k) (.int .i64 0) w) := ⟨0, Nat.zero_le _, rfl, rfl, Below.refl _ _⟩
  have HK : Hid (∀ j, j ≤ l.length → k ≤ upK l k j ∧ upK l k j ≤ k + j * 1048579) := fun j hj => ⟨upK_ge l k j, upK_le l k hcz j hj⟩
  have HC : Hid (∀ j, j < l.length → (lAt l j).cards.length ≤ 1048576) := fun j hj => hcz _ (List.mem_of_getElem? (lAt_get hj))
  obtain ⟨a, cap, rfl, _, hc⟩ := hv
  rw [mkL_length] at hc ⊢
  clear hcz
  go_enter Tryd.func93, Tryd.ntmps93
  go_wp2
  go_loopw [1, 5] (fun q i wr => RelH k l w q i wr) (fun _ i _ => l.length - (intOf i).toNat)
  case atStart => exact H0.out
  case round =>
    clear H0
    obtain ⟨j, hj, rfl, rfl, hbel⟩ := hrel
    by_cases hlt : j < l.length
    · obtain ⟨b, off, rfl, hbb, hcc⟩ := hc (by omega)
      have hlt' : (j : Int) < (l.length : Int) := by omega
      obtain ⟨hk1, hk2⟩ := HK.out j hj
      have hcl := HC.out j hlt
      obtain ⟨vc, hi, c0, c1, c2, c3⟩ := hcc j _ (mkL_at l k j hlt)
      have hup : upK l k (j + 1) = upK l k j + 3 + (lAt l j).cards.length := rfl
      unfold mkLn at hi c0 c1 c2
      dsimp only at hi c0 c1 c2
      generalize upK l k j = x at *
      generalize (lAt l j).cards.length = n at *
      obtain ⟨y, hy⟩ : ∃ y, x + 3 + n = y := ⟨_, rfl⟩
      have hy0 : ¬ (y : Int) < 0 := by omega
      have HY : Hid (upK l k (j + 1) = y) := hup.trans hy
      have HB : Hid (Below w.heap.size w wr) := hbel
      have HM1 : Hid (∀ W, Calls Tryd.prog 92 #[.int .i64 ((x : Int) + 1)] W fun e w' => e = .returned (.string (mkOf (x + 1))) ∧ Below W.heap.size W w') := fun W => by
        have := markText_any (x + 1) W (by omega) (by omega)
        rwa [show ((x + 1 : Nat) : Int) = (x : Int) + 1 by omega] at this
      have HM2 : Hid (∀ W, Calls Tryd.prog 92 #[.int .i64 ((x : Int) + 1 + 1)] W fun e w' => e = .returned (.string (mkOf (x + 2))) ∧ Below W.heap.size W w') := fun W => by
        have := markText_any (x + 2) W (by omega) (by omega)
        rwa [show ((x + 2 : Nat) : Int) = (x : Int) + 1 + 1 by omega] at this
      have HM3 : Hid (∀ W, Below w.heap.size w W → Calls Tryd.prog 103 #[vc, .int .i64 ((x : Int) + 1 + 1 + 1)] W fun e w' => e = .returned (.int .i64 (y : Nat)) ∧ Below W.heap.size W w') := fun W hW => by
        have := heldInts_any (x + 3) n vc W (hi.below hW) (by omega) (by omega)
        rwa [hy, show ((x + 3 : Nat) : Int) = (x : Int) + 1 + 1 + 1 by omega] at this
      have HQ : Hid (∀ W, Below w.heap.size w W → W.cell? ⟨b, off + j * 4 + 1, none⟩ = some (.string (mkOf (x + 1))) ∧ W.cell? ⟨b, off + j * 4 + 2, none⟩ = some (.string (mkOf (x + 2))) ∧ W.cell? ⟨b, off + j * 4 + 3, none⟩ = some vc) := fun W hW =>
        ⟨(hW.cell (p := ⟨b, off + j * 4 + 1, none⟩) hbb).trans c1, (hW.cell (p := ⟨b, off + j * 4 + 2, none⟩) hbb).trans c2, (hW.cell (p := ⟨b, off + j * 4 + 3, none⟩) hbb).trans c3⟩
      rw [← hbel.cell (p := ⟨b, off + j * 4, none⟩) hbb] at c0
      obtain ⟨q1, q2, q3⟩ := HQ.out wr hbel
      obtain ⟨a2, cap2, rfl, _, _⟩ := hi
      clear hcc hbel hup hy c1 c2 c3 hc
      go_upto_region 7 with fail
      go_region_with (go_at_call 92; refine (HM1.out _).mono ?_; rintro e w1 ⟨rfl, hb1⟩; have B1 : Hid (Below w.heap.size w w1) := bel2 HB.out ⟨hb1.os, hb1.tape, hb1.output, hb1.size, hb1.block⟩; obtain ⟨p1, p2, p3⟩ := HQ.out w1 B1.out)
      all_goals
        clear q1 q2 q3 c0 HM1
        go_upto_region 10 with fail
        go_region_with (go_at_call 92; refine (HM2.out _).mono ?_; rintro e w2 ⟨rfl, hb2⟩; have B2 : Hid (Below w.heap.size w w2) := bel2 B1.out ⟨hb2.os, hb2.tape, hb2.output, hb2.size, hb2.block⟩; obtain ⟨r1, r2, r3⟩ := HQ.out w2 B2.out)
        all_goals
          clear p1 p2 p3 hb1 B1 HM2 HQ r1 r2 hb2
          go_wp2_with fail
          refine (HM3.out _ B2.out).mono ?_
          rintro e w3 ⟨rfl, hb3⟩
          have B3 : Hid (Below w.heap.size w w3) := bel2 B2.out hb3
          clear hb3 HM3 B2
          go_wp2_with fail
          go_roundw
          case rel => exact ⟨j + 1, by omega, by go_num, by rw [HY.out], B3.out⟩
          case measure => simp [intOf]; omega
    · obtain rfl : j = l.length := by omega
      have HB : Hid (Below w.heap.size w wr) := hbel
      clear hbel
      go_wp2
      go_ret
      exact ⟨rfl, HB.out⟩
end Go.Proofs.YtkpjdmmgdmbmnaaDoor.IP
