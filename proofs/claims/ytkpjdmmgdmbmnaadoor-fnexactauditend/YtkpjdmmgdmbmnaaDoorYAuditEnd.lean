/-
  The walk of the exact law on AuditEnd.
-/
import Derived.Test.YtkpjdmmgdmbmnaaDoorI4
import Derived.Test.YtkpjdmmgdmbmnaaDoorAB
namespace Go.Proofs.YtkpjdmmgdmbmnaaDoor.YAuditEnd
open Go.RowKit
open Go.Proofs.YtkpjdmmgdmbmnaaDoor.C0 Go.Proofs.YtkpjdmmgdmbmnaaDoor.HB
open Go.Proofs.YtkpjdmmgdmbmnaaDoor.A0 Go.Proofs.YtkpjdmmgdmbmnaaDoor.A1 Go.Proofs.YtkpjdmmgdmbmnaaDoor.A3 Go.Proofs.YtkpjdmmgdmbmnaaDoor.A4 Go.Proofs.YtkpjdmmgdmbmnaaDoor.A8 Go.Proofs.YtkpjdmmgdmbmnaaDoor.AA Go.Proofs.YtkpjdmmgdmbmnaaDoor.AB Go.Proofs.YtkpjdmmgdmbmnaaDoor.I4
set_option maxRecDepth 100000 in
set_option maxHeartbeats 3200000 in
theorem walk (vl vk : Value) (ls : List Ln) (ks : List ByteArray) (w : World) (hL : K2.Laid w) (hv : LRow w vl ls) (hu : SRow w vk ks) (hx : ∀ x ∈ ls, LnW x) (hz : ∀ s ∈ ks, s.size ≤ maxLen) :
    Calls Tryd.prog 6 #[.agg #[vl, vk]] w fun e w' => e = .returned (.bool true) ∧ Below w.heap.size w w' := by
  have HSZ : Hid (∀ W, Below w.heap.size w W → Calls Tryd.prog 25 #[.agg #[vl, vk], .int .i64 1048576] W fun e w' => ∃ r, e = .returned (.int .i64 r) ∧ okA ls ks 1048576 r ∧ Below W.heap.size W w') := fun W hW => szAudit_any vl vk ls ks 1048576 W (hv.below hW) (hu.below hW) hx hz (by omega) (by omega)
  have HTO : Hid (∀ r, okA ls ks 1048576 r → 0 ≤ r → ∀ W, Below w.heap.size w W → Calls Tryd.prog 26 #[.agg #[vl, vk]] W fun e w' => ∃ ul uk, e = .returned (.agg #[ul, uk]) ∧ OLRow W.heap.size w' ul ls ∧ OStrs W.heap.size w' uk ks ∧ Below W.heap.size W w') := fun r hr h0 W hW => by
    rcases hr with hr | ⟨_, _, h1, h2, h3, _⟩
    · omega
    · exact toAudit_any vl vk ls ks W (hv.below hW) (hu.below hW) (by omega) (fun x hx => by have := h2 x hx; omega) (by omega)
  have HEQ : Hid (∀ W ul uk tl tk, LRow W ul ls → SRow W uk ks → LRow W tl ls → SRow W tk ks → Calls Tryd.prog 27 #[.agg #[ul, uk], .agg #[tl, tk]] W fun e w' => e = .returned (.bool true) ∧ Below W.heap.size W w') := fun W ul uk tl tk a b c d => eqAudit_same ul uk tl tk ls ks W a b c d
  have HS : Hid (∀ W ul uk, LRow W ul ls → SRow W uk ks → Calls Tryd.prog 19 #[.agg #[ul, uk]] W fun e w' => e = .returned (.string (endR ls ks)) ∧ Below W.heap.size W w') := fun W ul uk a b => end_spec ul uk ls ks W a b hx
  have HI : Hid (∀ W, Below w.heap.size w W → ∀ ul uk, LRow W ul ls → SRow W uk ks → Calls Tryd.prog 18 #[.agg #[ul, uk]] W fun e w' => e = .returned (.string (endR ls ks)) ∧ Below W.heap.size W w') := fun W hW ul uk a b => end_impl ul uk ls ks W (hL.below hW) a b hx
  generalize endR ls ks = o at *
  have ho : (o.toList == o.toList) = true := by simp
  obtain ⟨av, cv, rfl, _, _⟩ := hv
  obtain ⟨ak, ck, rfl, _, _⟩ := hu
  have KB : Hid _ := heap_alloc_new w (.cells #[.slice av ls.length cv, .slice ak ks.length ck] 48)
  have b0 : Hid _ := albel w (.cells #[.slice av ls.length cv, .slice ak ks.length ck] 48)
  clear hx hz hL
  go_enter Tryd.func6, Tryd.ntmps6
  go_wp2_with fail
  refine (HSZ.out _ b0.out).mono ?_
  rintro e w1 ⟨r, rfl, hr, hb1⟩
  have b1 : Hid (Below w.heap.size w w1) := bel2 b0.out hb1
  have k1 : Hid _ := carry KB.out hb1
  obtain ⟨c0, c1, cf⟩ := blk2a k1.out
  clear KB hb1
  by_cases h0 : r < 0
  · clear hr
    go_wp2
    go_ret
    exact ⟨rfl, b1.out⟩
  · have HT : Hid _ := HTO.out r hr (by omega)
    clear HTO hr
    go_wp2_with fail
    refine (HT.out _ b1.out).mono ?_
    rintro e w2 ⟨ul2, uk2, rfl, hl2, hs2, hb2⟩
    have b2 : Hid (Below w.heap.size w w2) := bel2 b1.out hb2
    have k2 : Hid _ := carry k1.out hb2
    clear c0 c1 cf k1 hb2
    obtain ⟨c0, c1, cf⟩ := blk2a k2.out
    go_wp2_with fail
    refine (HS.out _ _ _ hl2.lrow (OStrs.strs hs2)).mono ?_
    rintro e w3 ⟨rfl, hb3⟩
    have b3 : Hid (Below w.heap.size w w3) := bel2 b2.out hb3
    have k3 : Hid _ := carry k2.out hb3
    clear c0 c1 cf k2 hb3 hl2 hs2
    obtain ⟨c0, c1, cf⟩ := blk2a k3.out
    go_wp2_with fail
    refine (HT.out _ b3.out).mono ?_
    rintro e w4 ⟨ul4, uk4, rfl, hl4, hs4, hb4⟩
    have b4 : Hid (Below w.heap.size w w4) := bel2 b3.out hb4
    have k4 : Hid _ := carry k3.out hb4
    clear c0 c1 cf k3 hb4
    obtain ⟨c0, c1, cf⟩ := blk2a k4.out
    have hl4' := hl4.lrow
    have hs4' := OStrs.strs hs4
    obtain ⟨al, cl, rfl, _, _⟩ := hl4'
    obtain ⟨at_, cs, rfl, _, _⟩ := hs4'
    have al4 := albel w4 (.cells #[.slice al ls.length cl, .slice at_ ks.length cs] 26)
    have ka : Hid _ := carry k4.out al4
    have kx : Hid _ := heap_alloc_new w4 (.cells #[.slice al ls.length cl, .slice at_ ks.length cs] 26)
    have hl5 := hl4.lrow.below al4
    have hs5 := (OStrs.strs hs4).below al4
    have b5 : Hid (Below w.heap.size w _) := bel2 b4.out al4
    go_wp2_with fail
    refine (HI.out _ b5.out _ _ hl5 hs5).mono ?_
    rintro e w6 ⟨rfl, hb6⟩
    have b6 : Hid (Below w.heap.size w w6) := bel2 b5.out hb6
    have k6 : Hid _ := carry ka.out hb6
    have x6 : Hid _ := carry kx.out hb6
    have hl6 : Hid _ := hl5.below hb6
    have hs6 : Hid _ := hs5.below hb6
    clear c0 c1 cf k4 ka kx hl4 hs4 hl5 hs5 hb6 al4 HS HI b5 b4 b3 b2 b1 b0
    obtain ⟨c0, c1, cf⟩ := blk2a k6.out
    obtain ⟨d0, d1, df⟩ := blk2a x6.out
    go_wp2_with fail
    go_region_with (first
      | (go_at_call 26; refine (HT.out _ b6.out.drew).mono ?_; rintro e w7 ⟨ul7, uk7, rfl, hl7, hs7, hb7'⟩; have hb7 := undrew hb7'; have b7 := bel2 b6.out hb7; have x7 := carry x6.out hb7; obtain ⟨_, _, _⟩ := blk2a x7; have hl67 := LRow.below hl6.out hb7; have hs67 := SRow.below hs6.out hb7)
      | (go_at_call 27; refine (HEQ.out _ _ _ _ _ hl67 hs67 hl7.lrow (OStrs.strs hs7)).mono ?_; rintro e w8 ⟨rfl, hb8⟩))
    all_goals
      go_wp2
      go_ret
      exact ⟨rfl, bel2 b7 hb8⟩
end Go.Proofs.YtkpjdmmgdmbmnaaDoor.YAuditEnd
