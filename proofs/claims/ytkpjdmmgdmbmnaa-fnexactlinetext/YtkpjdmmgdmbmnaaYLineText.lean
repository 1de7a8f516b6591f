/-
  The walk of the exact law on LineText.
-/
import Derived.Test.YtkpjdmmgdmbmnaaI1
import Derived.Test.YtkpjdmmgdmbmnaaA7
namespace Go.Proofs.Ytkpjdmmgdmbmnaa.YLineText
open Go.RowKit
open Go.Proofs.Ytkpjdmmgdmbmnaa.C0 Go.Proofs.Ytkpjdmmgdmbmnaa.HB
open Go.Proofs.Ytkpjdmmgdmbmnaa.A0 Go.Proofs.Ytkpjdmmgdmbmnaa.A1 Go.Proofs.Ytkpjdmmgdmbmnaa.A4 Go.Proofs.Ytkpjdmmgdmbmnaa.A6 Go.Proofs.Ytkpjdmmgdmbmnaa.A7 Go.Proofs.Ytkpjdmmgdmbmnaa.I1
set_option maxRecDepth 100000 in
set_option maxHeartbeats 3200000 in
theorem walk (x : Ln) (vc : Value) (w : World) (hv : IRow w vc x.cards) (hx : LnW x) :
    Calls Try.prog 4 #[lnV x vc] w fun e w' => e = .returned (.bool true) ∧ Below w.heap.size w w' := by
  have HSZ : Hid (∀ W, Below w.heap.size w W → Calls Try.prog 5 #[lnV x vc, .int .i64 1048576] W fun e w' => ∃ r, e = .returned (.int .i64 r) ∧ okLn x 1048576 r ∧ Below W.heap.size W w') := fun W hW => szLine_any x vc 1048576 W (hv.below hW) hx (by omega) (by omega)
  have HTO : Hid (x.cards.length ≤ 1048576 → ∀ W, Below w.heap.size w W → Calls Try.prog 7 #[lnV x vc] W fun e w' => ∃ vd, e = .returned (lnV x vd) ∧ OIRow W.heap.size w' vd x.cards ∧ Below W.heap.size W w') := fun hz W hW => toLine_any x vc W (hv.below hW) hz
  have HEQ : Hid (∀ W va vb, IRow W va x.cards → IRow W vb x.cards → Calls Try.prog 9 #[lnV x va, lnV x vb] W fun e w' => e = .returned (.bool true) ∧ Below W.heap.size W w') := fun W va vb ha hb => eqLine_same x va vb W ha hb
  have HS : Hid (∀ W vd, IRow W vd x.cards → Calls Try.prog 10 #[lnV x vd] W fun e w' => e = .returned (.string (textR x)) ∧ Below W.heap.size W w') := fun W vd h => I1.textR_spec x vd W h hx
  have HI : Hid (∀ W vd, IRow W vd x.cards → Calls Try.prog 11 #[lnV x vd] W fun e w' => e = .returned (.string (textR x)) ∧ Below W.heap.size W w') := fun W vd h => I1.text_impl x vd W h hx
  generalize textR x = o at *
  have ho : (o.toList == o.toList) = true := by simp
  have hv' : Hid (IRow w vc x.cards) := hv
  obtain ⟨av, cv, rfl, _, _⟩ := hv
  have KB : Hid _ := heap_alloc_new w (.cells #[.int .i64 x.kind, .string x.name, .string x.sum, .slice av x.cards.length cv] 24)
  have b0 : Hid _ := albel w (.cells #[.int .i64 x.kind, .string x.name, .string x.sum, .slice av x.cards.length cv] 24)
  have hok : okLn x 1048576 0 ↔ okLn x 1048576 0 := Iff.rfl
  unfold lnV at HSZ HTO HEQ HS HI ⊢
  have HL : Hid (∀ r, okLn x 1048576 r → 0 ≤ r → x.cards.length ≤ 1048576) := fun r h h0 => by rcases h with h | h <;> omega
  obtain ⟨kind, name, sum, cs⟩ := x
  dsimp only at *
  clear hx hok
  go_enter Try.func4, Try.ntmps4
  go_wp2_with fail
  refine (HSZ.out _ b0.out).mono ?_
  rintro e w1 ⟨r, rfl, hr, hb1⟩
  have b1 : Hid (Below w.heap.size w w1) := bel2 b0.out hb1
  have k1 : Hid _ := carry KB.out hb1
  obtain ⟨c0, c1, c2, c3, cf⟩ := blk4f k1.out
  clear KB hb1
  by_cases h0 : r < 0
  · go_wp2
    go_ret
    exact ⟨rfl, b1.out⟩
  · have hlen := HL.out r hr (by omega)
    clear hr HL
    have HT : Hid _ := HTO.out hlen
    clear HTO hlen
    go_wp2_with fail
    refine (HT.out _ b1.out).mono ?_
    rintro e w2 ⟨vd, rfl, ho2, hb2⟩
    have b2 : Hid (Below w.heap.size w w2) := bel2 b1.out hb2
    have k2 : Hid _ := carry k1.out hb2
    clear c0 c1 c2 c3 cf k1 hb2
    obtain ⟨c0, c1, c2, c3, cf⟩ := blk4f k2.out
    go_wp2_with fail
    refine (HS.out _ _ ho2.irow).mono ?_
    rintro e w3 ⟨rfl, hb3⟩
    have b3 : Hid (Below w.heap.size w w3) := bel2 b2.out hb3
    have k3 : Hid _ := carry k2.out hb3
    clear c0 c1 c2 c3 cf k2 hb3 ho2
    obtain ⟨c0, c1, c2, c3, cf⟩ := blk4f k3.out
    go_wp2_with fail
    refine (HT.out _ b3.out).mono ?_
    rintro e w4 ⟨ve, rfl, ho4, hb4⟩
    have b4 : Hid (Below w.heap.size w w4) := bel2 b3.out hb4
    have k4 : Hid _ := carry k3.out hb4
    clear c0 c1 c2 c3 cf k3 hb4
    obtain ⟨c0, c1, c2, c3, cf⟩ := blk4f k4.out
    have ho4' := ho4.irow
    obtain ⟨ae, ce, rfl, _, _⟩ := ho4'
    have al4 := albel w4 (.cells #[.int .i64 kind, .string name, .string sum, .slice ae cs.length ce] 27)
    have ka : Hid _ := carry k4.out al4
    have kx : Hid _ := heap_alloc_new w4 (.cells #[.int .i64 kind, .string name, .string sum, .slice ae cs.length ce] 27)
    have ho5 : Hid _ := ho4.below al4
    have b5 : Hid (Below w.heap.size w _) := bel2 b4.out al4
    go_wp2_with fail
    refine (HI.out _ _ (A6.OIRow.irow ho5.out)).mono ?_
    rintro e w6 ⟨rfl, hb6⟩
    have b6 : Hid (Below w.heap.size w w6) := bel2 b5.out hb6
    have k6 : Hid _ := carry ka.out hb6
    have x6 : Hid _ := carry kx.out hb6
    have ho6 : Hid _ := A6.OIRow.below ho5.out hb6
    clear c0 c1 c2 c3 cf k4 ka kx ho4 ho5 hb6 al4 HS HI b5 b4 b3 b2 b1 b0
    obtain ⟨c0, c1, c2, c3, cf⟩ := blk4f k6.out
    obtain ⟨d0, d1, d2, d3, df⟩ := blk4f x6.out
    go_wp2_with fail
    go_region_with (first
      | (go_at_call 7; refine (HT.out _ b6.out.drew).mono ?_; rintro e w7 ⟨vf, rfl, ho7, hb7'⟩; have hb7 := undrew hb7'; have b7 := bel2 b6.out hb7; have x7 := carry x6.out hb7; obtain ⟨_, _, _, _, _⟩ := blk4f x7; have ho67 := A6.OIRow.below ho6.out hb7)
      | (go_at_call 9; refine (HEQ.out _ _ _ (A6.OIRow.irow ho67) (A6.OIRow.irow ho7)).mono ?_; rintro e w8 ⟨rfl, hb8⟩))
    all_goals
      go_wp2
      go_ret
      exact ⟨rfl, bel2 b7 hb8⟩
end Go.Proofs.Ytkpjdmmgdmbmnaa.YLineText
