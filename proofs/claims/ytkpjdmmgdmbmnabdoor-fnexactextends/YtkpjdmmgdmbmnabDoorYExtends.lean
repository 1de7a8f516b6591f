/-
  The walk of the exact law on Extends.
-/
import Derived.Test.YtkpjdmmgdmbmnabDoorI8
import Derived.Test.YtkpjdmmgdmbmnabDoorAB
namespace Go.Proofs.YtkpjdmmgdmbmnabDoor.YExtends
open Go.RowKit
open Go.Proofs.YtkpjdmmgdmbmnabDoor.C0 Go.Proofs.YtkpjdmmgdmbmnabDoor.HB
open Go.Proofs.YtkpjdmmgdmbmnabDoor.A0 Go.Proofs.YtkpjdmmgdmbmnabDoor.A1 Go.Proofs.YtkpjdmmgdmbmnabDoor.A3 Go.Proofs.YtkpjdmmgdmbmnabDoor.A4 Go.Proofs.YtkpjdmmgdmbmnabDoor.A8 Go.Proofs.YtkpjdmmgdmbmnabDoor.AA Go.Proofs.YtkpjdmmgdmbmnabDoor.AB Go.Proofs.YtkpjdmmgdmbmnabDoor.I4 Go.Proofs.YtkpjdmmgdmbmnabDoor.I5
theorem okA_next {ls : List Ln} {ks : List ByteArray} {r : Int} (h : okA ls ks 1048576 r) (h0 : 0 ≤ r) : r ≤ 1048576 ∧ ls.length ≤ 1048576 ∧ (∀ x ∈ ls, x.cards.length ≤ 1048576) ∧ ks.length ≤ 1048576 := by
  rcases h with hr | ⟨_, h, h1, h2, h3, _⟩
  · omega
  · exact ⟨by omega, by omega, fun x hx => by have := h2 x hx; omega, by omega⟩
theorem okA_less {ls : List Ln} {ks : List ByteArray} {a r : Int} (h : okA ls ks a r) (ha : a ≤ 1048576) (h0 : 0 ≤ r) : ls.length ≤ 1048576 ∧ (∀ x ∈ ls, x.cards.length ≤ 1048576) ∧ ks.length ≤ 1048576 := by
  rcases h with hr | ⟨_, h, h1, h2, h3, _⟩
  · omega
  · exact ⟨by omega, fun x hx => by have := h2 x hx; omega, by omega⟩
set_option maxRecDepth 100000 in
set_option maxHeartbeats 6400000 in
theorem walk (va ka : Value) (la : List Ln) (sa : List ByteArray) (vb kb : Value) (lb : List Ln) (sb : List ByteArray) (w : World) (hL : K2.Laid w) (hva : LRow w va la) (hka : SRow w ka sa) (wa : ∀ x ∈ la, LnW x) (za : ∀ s ∈ sa, s.size ≤ maxLen) (hvb : LRow w vb lb) (hkb : SRow w kb sb) (wb : ∀ x ∈ lb, LnW x) (zb : ∀ s ∈ sb, s.size ≤ maxLen) :
    Calls Tryd.prog 3 #[.agg #[va, ka], .agg #[vb, kb]] w fun e w' => e = .returned (.bool true) ∧ Below w.heap.size w w' := by
  have HSA : Hid (∀ W, Below w.heap.size w W → Calls Tryd.prog 4 #[.agg #[va, ka], .int .i64 1048576] W fun e w' => ∃ r, e = .returned (.int .i64 r) ∧ okA la sa 1048576 r ∧ Below W.heap.size W w') := fun W hW => szAudit_any va ka la sa 1048576 W (hva.below hW) (hka.below hW) wa za (by omega) (by omega)
  have HSB : Hid (∀ r : Int, 0 ≤ r → r ≤ 1048576 → ∀ W, Below w.heap.size w W → Calls Tryd.prog 4 #[.agg #[vb, kb], .int .i64 r] W fun e w' => ∃ q, e = .returned (.int .i64 q) ∧ okA lb sb r q ∧ Below W.heap.size W w') := fun r h0 h1 W hW => szAudit_any vb kb lb sb r W (hvb.below hW) (hkb.below hW) wb zb h0 h1
  have HTA : Hid (la.length ≤ 1048576 ∧ (∀ x ∈ la, x.cards.length ≤ 1048576) ∧ sa.length ≤ 1048576 → ∀ W, Below w.heap.size w W → Calls Tryd.prog 6 #[.agg #[va, ka]] W fun e w' => ∃ ul uk, e = .returned (.agg #[ul, uk]) ∧ OLRow W.heap.size w' ul la ∧ OStrs W.heap.size w' uk sa ∧ Below W.heap.size W w') := fun h W hW => toAudit_any va ka la sa W (hva.below hW) (hka.below hW) h.1 h.2.1 h.2.2
  have HTB : Hid (lb.length ≤ 1048576 ∧ (∀ x ∈ lb, x.cards.length ≤ 1048576) ∧ sb.length ≤ 1048576 → ∀ W, Below w.heap.size w W → Calls Tryd.prog 6 #[.agg #[vb, kb]] W fun e w' => ∃ ul uk, e = .returned (.agg #[ul, uk]) ∧ OLRow W.heap.size w' ul lb ∧ OStrs W.heap.size w' uk sb ∧ Below W.heap.size W w') := fun h W hW => toAudit_any vb kb lb sb W (hvb.below hW) (hkb.below hW) h.1 h.2.1 h.2.2
  have HEA : Hid (∀ W ul uk tl tk, LRow W ul la → SRow W uk sa → LRow W tl la → SRow W tk sa → Calls Tryd.prog 8 #[.agg #[ul, uk], .agg #[tl, tk]] W fun e w' => e = .returned (.bool true) ∧ Below W.heap.size W w') := fun W ul uk tl tk a b c d => eqAudit_same ul uk tl tk la sa W a b c d
  have HEB : Hid (∀ W ul uk tl tk, LRow W ul lb → SRow W uk sb → LRow W tl lb → SRow W tk sb → Calls Tryd.prog 8 #[.agg #[ul, uk], .agg #[tl, tk]] W fun e w' => e = .returned (.bool true) ∧ Below W.heap.size W w') := fun W ul uk tl tk a b c d => eqAudit_same ul uk tl tk lb sb W a b c d
  have HS : Hid (∀ W ul uk tl tk, LRow W ul la → SRow W uk sa → LRow W tl lb → SRow W tk sb → Calls Tryd.prog 5 #[.agg #[ul, uk], .agg #[tl, tk]] W fun e w' => e = .returned (.bool (extR la sa lb sb)) ∧ Below W.heap.size W w') := fun W ul uk tl tk a b c d => I6.ext_spec ul uk tl tk la lb sa sb W a b c d wa wb
  have HI : Hid (∀ W, Below w.heap.size w W → ∀ ul uk tk a3 c3, LRow W ul la → SRow W uk sa → LRow W (.slice a3 lb.length c3) lb → lb.length ≤ c3 → SRow W tk sb → Calls Tryd.prog 7 #[.agg #[ul, uk], .agg #[.slice a3 lb.length c3, tk]] W fun e w' => e = .returned (.bool (extR la sa lb sb)) ∧ Below W.heap.size W w') := fun W hW ul uk tk a3 c3 a b c d e => I8.ext_impl ul uk tk a3 c3 la lb sa sb W (hL.below hW) a b c d e wa wb
  generalize extR la sa lb sb = o at *
  obtain ⟨a1, c1, rfl, _, _⟩ := hva
  obtain ⟨a2, c2, rfl, _, _⟩ := hka
  obtain ⟨a3, c3, rfl, _, _⟩ := hvb
  obtain ⟨a4, c4, rfl, _, _⟩ := hkb
  have KA := heap_alloc_new w (.cells #[.slice a1 la.length c1, .slice a2 sa.length c2] 25)
  have BA := albel w (.cells #[.slice a1 la.length c1, .slice a2 sa.length c2] 25)
  have KA2 := carryA KA (.cells #[.slice a3 lb.length c3, .slice a4 sb.length c4] 25)
  have BA2 := BA.alloc BA.size (.cells #[.slice a3 lb.length c3, .slice a4 sb.length c4] 25)
  have KB2 := heap_alloc_new (w.alloc (.cells #[.slice a1 la.length c1, .slice a2 sa.length c2] 25)) (.cells #[.slice a3 lb.length c3, .slice a4 sb.length c4] 25)
  rw [asz] at KB2
  clear KA BA wa wb za zb hL
  have kA : Hid _ := KA2
  have kB : Hid _ := KB2
  have b0 : Hid _ := BA2
  clear KA2 KB2 BA2
  go_enter Tryd.func3, Tryd.ntmps3
  go_wp2_with fail
  refine (HSA.out _ b0.out).mono ?_
  rintro e w1 ⟨r, rfl, hr, hb1⟩
  have b1 : Hid (Below w.heap.size w w1) := bel2 b0.out hb1
  have kA1 : Hid _ := carry kA.out hb1
  have kB1 : Hid _ := carry kB.out hb1
  clear hb1 kA kB b0 HSA
  by_cases h0 : r < 0
  · clear hr
    go_wp2
    go_ret
    exact ⟨rfl, b1.out⟩
  have HR : Hid _ := okA_next hr (by omega)
  clear hr
  have hr1 := HR.out.1
  obtain ⟨p0, p1, pf⟩ := blk2a kB1.out
  go_wp2_with fail
  refine (HSB.out r (by omega) hr1 _ b1.out).mono ?_
  rintro e w2 ⟨q, rfl, hq, hb2⟩
  have b2 : Hid (Below w.heap.size w w2) := bel2 b1.out hb2
  have kA2 : Hid _ := carry kA1.out hb2
  have kB2 : Hid _ := carry kB1.out hb2
  clear hb2 kA1 kB1 b1 HSB p0 p1 pf
  by_cases h1 : q < 0
  · clear hq
    go_wp2
    go_ret
    exact ⟨rfl, b2.out⟩
  have HTA2 : Hid _ := HTA.out HR.out.2
  have HTB2 : Hid _ := HTB.out (okA_less hq hr1 (by omega))
  clear hq HTA HTB HR hr1
  go_upto_region 8 with fail
  have KF : Hid (∀ y, Below w2.heap.size w2 y → (y.cell? ⟨w.heap.size, 0, none⟩ = some (.slice a1 la.length c1) ∧ y.cell? ⟨w.heap.size, 1, none⟩ = some (.slice a2 sa.length c2)) ∧ (y.cell? ⟨w.heap.size + 1, 0, none⟩ = some (.slice a3 lb.length c3) ∧ y.cell? ⟨w.heap.size + 1, 1, none⟩ = some (.slice a4 sb.length c4))) := fun y hy => ⟨⟨block_cell (carry kA2.out hy) 0, block_cell (carry kA2.out hy) 1⟩, block_cell (carry kB2.out hy) 0, block_cell (carry kB2.out hy) 1⟩
  go_cut [6] from 5 to 24 (fun s y => s = .bool o ∧ Below w2.heap.size w2 y)
  case first =>
    have hb0 : Below w2.heap.size w2 w2.drew := (Below.refl _ _).drew
    refine wp_region_held_drew (S := (fun y => (y.cell? ⟨w.heap.size, 0, none⟩ = some (.slice a1 la.length c1) ∧ y.cell? ⟨w.heap.size, 1, none⟩ = some (.slice a2 sa.length c2)) ∧ (y.cell? ⟨w.heap.size + 1, 0, none⟩ = some (.slice a3 lb.length c3) ∧ y.cell? ⟨w.heap.size + 1, 1, none⟩ = some (.slice a4 sb.length c4)))) (by kernel_rfl) (KF.out _ hb0) (fun hHeld => ?_)
    refine TK.take_at 0 (some 20) (v := ?va0) rfl rfl (by kernel_rfl) (by kernel_rfl) (by kernel_rfl) (fun _ _ _ h => h) (Or.inl ⟨rfl, ?ha0⟩) hHeld ?ra0
    case ha0 => intro wq hSw; (try dsimp only at hSw); go_simp; all_goals (with_reducible rfl)
    try simp only [Act.put, List.setIfInBounds_toArray, List.set_cons_zero, List.set_cons_succ]
    refine TK.take_at 2 (some 22) (v := ?va2) rfl rfl (by kernel_rfl) (by kernel_rfl) (by kernel_rfl) (fun _ _ _ h => h) (Or.inl ⟨rfl, ?ha2⟩) hHeld ?ra2
    case ha2 => intro wq hSw; (try dsimp only at hSw); go_simp; all_goals (with_reducible rfl)
    try simp only [Act.put, List.setIfInBounds_toArray, List.set_cons_zero, List.set_cons_succ]
    refine wpAnyH_ready (rs := [1]) (by kernel_rfl) (by simp) ?_
    refine AllReadyH.cons rfl (fun K hK => ?_) AllReadyH.nil
    go_simp
    (go_at_call 6; refine (HTA2.out _ (bel2 b2.out hb0)).mono ?_; rintro e x1 ⟨ul, uk, rfl, hl1, hs1, hq1⟩; have hb0 := bel2 hb0 hq1)
    try (go_wp2_with fail)
    refine hK.out _ _ ?_ (fun hHeld => ?_)
    · exact KF.out _ hb0
    clear hK K
    try simp only [Act.put, List.setIfInBounds_toArray, List.set_cons_zero, List.set_cons_succ]
    refine wpAnyH_ready (rs := [3]) (by kernel_rfl) (by simp) ?_
    refine AllReadyH.cons rfl (fun K hK => ?_) AllReadyH.nil
    go_simp
    (go_at_call 6; refine (HTB2.out _ (bel2 b2.out hb0)).mono ?_; rintro e x2 ⟨tl, tk, rfl, hl2, hs2, hq2⟩; have hb0 := bel2 hb0 hq2)
    try (go_wp2_with fail)
    refine hK.out _ _ ?_ (fun hHeld => ?_)
    · exact KF.out _ hb0
    clear hK K
    try simp only [Act.put, List.setIfInBounds_toArray, List.set_cons_zero, List.set_cons_succ]
    refine wpAnyH_ready (rs := [4]) (by kernel_rfl) (by simp) ?_
    refine AllReadyH.cons rfl (fun K hK => ?_) AllReadyH.nil
    go_simp
    (go_at_call 5; refine (HS.out _ _ _ _ _ (hl1.lrow.below hq2) ((OStrs.strs hs1).below hq2) hl2.lrow (OStrs.strs hs2)).mono ?_; rintro e x3 ⟨rfl, hq3⟩; have hb0 := bel2 hb0 hq3)
    try (go_wp2_with fail)
    refine hK.out _ _ ?_ (fun hHeld => ?_)
    · exact KF.out _ hb0
    clear hK K
    try simp only [Act.put, List.setIfInBounds_toArray, List.set_cons_zero, List.set_cons_succ]
    refine TK.take_at 5 (some 6) (v := ?va5) rfl rfl (by kernel_rfl) (by kernel_rfl) (by kernel_rfl) (fun _ _ _ h => h) (Or.inl ⟨rfl, ?ha5⟩) hHeld ?ra5
    case ha5 => intro wq hSw; (try dsimp only at hSw); go_simp; all_goals (with_reducible rfl)
    try simp only [Act.put, List.setIfInBounds_toArray, List.set_cons_zero, List.set_cons_succ]
    refine wpAnyH_done (by kernel_rfl) ?_ _
    go_wp2_with fail
    go_meet
    case rel => exact ⟨rfl, hb0⟩
  case rest =>
    obtain ⟨rfl, hb3⟩ := hcut
    have b3 : Hid (Below w.heap.size w wc) := bel2 b2.out hb3
    have kA3 : Hid _ := carry kA2.out hb3
    have kB3 : Hid _ := carry kB2.out hb3
    clear hb3 KF HS b2 kA2 kB2
    obtain ⟨q0, q1, qf⟩ := blk2a kA3.out
    go_wp2_with fail
    refine (HTA2.out _ b3.out).mono ?_
    rintro e w4 ⟨ul, uk, rfl, hl4, hs4, hb4⟩
    have hl4' := hl4.lrow
    have hs4' := OStrs.strs hs4
    obtain ⟨a5, c5, rfl, _, _⟩ := hl4'
    obtain ⟨a6, c6, rfl, _, _⟩ := hs4'
    have al4 := albel w4 (.cells #[.slice a5 la.length c5, .slice a6 sa.length c6] 30)
    have kx : Hid _ := heap_alloc_new w4 (.cells #[.slice a5 la.length c5, .slice a6 sa.length c6] 30)
    have b4 : Hid (Below w.heap.size w _) := bel2 (bel2 b3.out hb4) al4
    have kA4 : Hid _ := carry (carry kA3.out hb4) al4
    have kB4 : Hid _ := carry (carry kB3.out hb4) al4
    have l4 : Hid _ := hl4.lrow.below al4
    have s4 : Hid _ := (OStrs.strs hs4).below al4
    clear hb4 al4 hl4 hs4 q0 q1 qf kA3 kB3 b3
    obtain ⟨p0, p1, pf⟩ := blk2a kB4.out
    go_wp2_with fail
    generalize w4.alloc (.cells #[.slice a5 la.length c5, .slice a6 sa.length c6] 30) = W4 at *
    generalize hg4 : w4.heap.size = g4 at *
    refine (HTB2.out _ b4.out).mono ?_
    rintro e w5 ⟨tl, tk, rfl, hl5, hs5, hb5⟩
    have hl5' := hl5.lrow
    have hs5' := OStrs.strs hs5
    obtain ⟨a7, c7, rfl, _, _⟩ := hl5'
    obtain ⟨a8, c8, rfl, _, _⟩ := hs5'
    have hcap := hl5.cap
    have al5 := albel w5 (.cells #[.slice a7 lb.length c7, .slice a8 sb.length c8] 30)
    have ky : Hid _ := heap_alloc_new w5 (.cells #[.slice a7 lb.length c7, .slice a8 sb.length c8] 30)
    have b5 : Hid (Below w.heap.size w _) := bel2 (bel2 b4.out hb5) al5
    have kA5 : Hid _ := carry (carry kA4.out hb5) al5
    have kB5 : Hid _ := carry (carry kB4.out hb5) al5
    have kx5 : Hid _ := carry (carry kx.out hb5) al5
    have l5 : Hid _ := LRow.below (LRow.below l4.out hb5) al5
    have s5 : Hid _ := SRow.below (SRow.below s4.out hb5) al5
    have l6 : Hid _ := hl5.lrow.below al5
    have s6 : Hid _ := (OStrs.strs hs5).below al5
    clear hb5 al5 hl5 hs5 p0 p1 pf kA4 kB4 b4 kx l4 s4 hg4
    obtain ⟨p0, p1, pf⟩ := blk2a kx5.out
    go_wp2_with fail
    generalize w5.alloc (.cells #[.slice a7 lb.length c7, .slice a8 sb.length c8] 30) = W5 at *
    generalize hg5 : w5.heap.size = g5 at *
    refine (HI.out _ b5.out _ _ _ _ _ l5.out s5.out l6.out hcap s6.out).mono ?_
    rintro e w6 ⟨rfl, hb6⟩
    have b6 : Hid (Below w.heap.size w _) := bel2 b5.out hb6
    have kA6 : Hid _ := carry kA5.out hb6
    have kB6 : Hid _ := carry kB5.out hb6
    have kx6 : Hid _ := carry kx5.out hb6
    have ky6 : Hid _ := carry ky.out hb6
    have l7 : Hid _ := LRow.below l5.out hb6
    have s7 : Hid _ := SRow.below s5.out hb6
    have l8 : Hid _ := LRow.below l6.out hb6
    have s8 : Hid _ := SRow.below s6.out hb6
    clear hb6 p0 p1 pf kA5 kB5 b5 kx5 l5 s5 l6 s6 ky HI hcap hg5
    go_upto_region 14 with fail
    have KF : Hid (∀ y, Below w6.heap.size w6 y → (y.cell? ⟨w.heap.size, 0, none⟩ = some (.slice a1 la.length c1) ∧ y.cell? ⟨w.heap.size, 1, none⟩ = some (.slice a2 sa.length c2)) ∧ (y.cell? ⟨g4, 0, none⟩ = some (.slice a5 la.length c5) ∧ y.cell? ⟨g4, 1, none⟩ = some (.slice a6 sa.length c6))) := fun y hy => ⟨⟨block_cell (carry kA6.out hy) 0, block_cell (carry kA6.out hy) 1⟩, block_cell (carry kx6.out hy) 0, block_cell (carry kx6.out hy) 1⟩
    go_cut [39] from 35 to 39 (fun s y => s = .bool false ∧ Below w6.heap.size w6 y)
    case first =>
      have hb0 : Below w6.heap.size w6 w6.drew := (Below.refl _ _).drew
      refine wp_region_held_drew (S := (fun y => (y.cell? ⟨w.heap.size, 0, none⟩ = some (.slice a1 la.length c1) ∧ y.cell? ⟨w.heap.size, 1, none⟩ = some (.slice a2 sa.length c2)) ∧ (y.cell? ⟨g4, 0, none⟩ = some (.slice a5 la.length c5) ∧ y.cell? ⟨g4, 1, none⟩ = some (.slice a6 sa.length c6)))) (by kernel_rfl) (KF.out _ hb0) (fun hHeld => ?_)
      refine TK.take_at 0 (some 35) (v := ?vb0) rfl rfl (by kernel_rfl) (by kernel_rfl) (by kernel_rfl) (fun _ _ _ h => h) (Or.inl ⟨rfl, ?hb0⟩) hHeld ?rb0
      case hb0 => intro wq hSw; (try dsimp only at hSw); go_simp; all_goals (with_reducible rfl)
      try simp only [Act.put, List.setIfInBounds_toArray, List.set_cons_zero, List.set_cons_succ]
      refine TK.take_at 1 (some 36) (v := ?vb1) rfl rfl (by kernel_rfl) (by kernel_rfl) (by kernel_rfl) (fun _ _ _ h => h) (Or.inl ⟨rfl, ?hb1⟩) hHeld ?rb1
      case hb1 => intro wq hSw; (try dsimp only at hSw); go_simp; all_goals (with_reducible rfl)
      try simp only [Act.put, List.setIfInBounds_toArray, List.set_cons_zero, List.set_cons_succ]
      refine wpAnyH_ready (rs := [2]) (by kernel_rfl) (by simp) ?_
      refine AllReadyH.cons rfl (fun K hK => ?_) AllReadyH.nil
      go_simp
      (go_at_call 6; refine (HTA2.out _ (bel2 b6.out hb0)).mono ?_; rintro e x1 ⟨ul, uk, rfl, hl1, hs1, hq1⟩; have hb1 := bel2 hb0 hq1; have hb0 := hb1)
      try (go_wp2_with fail)
      refine hK.out _ _ ?_ (fun hHeld => ?_)
      · exact KF.out _ hb0
      clear hK K
      try simp only [Act.put, List.setIfInBounds_toArray, List.set_cons_zero, List.set_cons_succ]
      refine wpAnyH_ready (rs := [3]) (by kernel_rfl) (by simp) ?_
      refine AllReadyH.cons rfl (fun K hK => ?_) AllReadyH.nil
      go_simp
      (go_at_call 8; refine (HEA.out _ _ _ _ _ (LRow.below l7.out hb1) (SRow.below s7.out hb1) hl1.lrow (OStrs.strs hs1)).mono ?_; rintro e x2 ⟨rfl, hq2⟩; have hb0 := bel2 hb1 hq2)
      try (go_wp2_with fail)
      refine hK.out _ _ ?_ (fun hHeld => ?_)
      · exact KF.out _ hb0
      clear hK K
      try simp only [Act.put, List.setIfInBounds_toArray, List.set_cons_zero, List.set_cons_succ]
      refine TK.take_at 4 (some 39) (v := ?vb4) rfl rfl (by kernel_rfl) (by kernel_rfl) (by kernel_rfl) (fun _ _ _ h => h) (Or.inl ⟨rfl, ?hb4⟩) hHeld ?rb4
      case hb4 => intro wq hSw; (try dsimp only at hSw); go_simp; all_goals (with_reducible rfl)
      try simp only [Act.put, List.setIfInBounds_toArray, List.set_cons_zero, List.set_cons_succ]
      refine wpAnyH_done (by kernel_rfl) ?_ _
      go_wp2_with fail
      go_meet
      case rel => exact ⟨rfl, hb0⟩
    case rest =>
      obtain ⟨rfl, hb7⟩ := hcut
      have b7 : Hid (Below w.heap.size w wc) := bel2 b6.out hb7
      have kB7 : Hid _ := carry kB6.out hb7
      have ky7 : Hid _ := carry ky6.out hb7
      have l9 : Hid _ := LRow.below l8.out hb7
      have s9 : Hid _ := SRow.below s8.out hb7
      clear hb7 KF b6 kA6 kB6 kx6 ky6 l7 s7 l8 s8 HEA HTA2
      generalize wc = w7 at *
      go_upto_region 16 with fail
      have KF : Hid (∀ y, Below w7.heap.size w7 y → (y.cell? ⟨w.heap.size + 1, 0, none⟩ = some (.slice a3 lb.length c3) ∧ y.cell? ⟨w.heap.size + 1, 1, none⟩ = some (.slice a4 sb.length c4)) ∧ (y.cell? ⟨g5, 0, none⟩ = some (.slice a7 lb.length c7) ∧ y.cell? ⟨g5, 1, none⟩ = some (.slice a8 sb.length c8))) := fun y hy => ⟨⟨block_cell (carry kB7.out hy) 0, block_cell (carry kB7.out hy) 1⟩, block_cell (carry ky7.out hy) 0, block_cell (carry ky7.out hy) 1⟩
      have hb0 : Below w7.heap.size w7 w7.drew := (Below.refl _ _).drew
      refine wp_region_held_drew (S := (fun y => (y.cell? ⟨w.heap.size + 1, 0, none⟩ = some (.slice a3 lb.length c3) ∧ y.cell? ⟨w.heap.size + 1, 1, none⟩ = some (.slice a4 sb.length c4)) ∧ (y.cell? ⟨g5, 0, none⟩ = some (.slice a7 lb.length c7) ∧ y.cell? ⟨g5, 1, none⟩ = some (.slice a8 sb.length c8)))) (by kernel_rfl) (KF.out _ hb0) (fun hHeld => ?_)
      refine TK.take_at 0 (some 40) (v := ?vc0) rfl rfl (by kernel_rfl) (by kernel_rfl) (by kernel_rfl) (fun _ _ _ h => h) (Or.inl ⟨rfl, ?hc0⟩) hHeld ?rc0
      case hc0 => intro wq hSw; (try dsimp only at hSw); go_simp; all_goals (with_reducible rfl)
      try simp only [Act.put, List.setIfInBounds_toArray, List.set_cons_zero, List.set_cons_succ]
      refine TK.take_at 1 (some 41) (v := ?vc1) rfl rfl (by kernel_rfl) (by kernel_rfl) (by kernel_rfl) (fun _ _ _ h => h) (Or.inl ⟨rfl, ?hc1⟩) hHeld ?rc1
      case hc1 => intro wq hSw; (try dsimp only at hSw); go_simp; all_goals (with_reducible rfl)
      try simp only [Act.put, List.setIfInBounds_toArray, List.set_cons_zero, List.set_cons_succ]
      refine wpAnyH_ready (rs := [2]) (by kernel_rfl) (by simp) ?_
      refine AllReadyH.cons rfl (fun K hK => ?_) AllReadyH.nil
      go_simp
      (go_at_call 6; refine (HTB2.out _ (bel2 b7.out hb0)).mono ?_; rintro e x1 ⟨ul, uk, rfl, hl1, hs1, hq1⟩; have hb1 := bel2 hb0 hq1; have hb0 := hb1)
      try (go_wp2_with fail)
      refine hK.out _ _ ?_ (fun hHeld => ?_)
      · exact KF.out _ hb0
      clear hK K
      try simp only [Act.put, List.setIfInBounds_toArray, List.set_cons_zero, List.set_cons_succ]
      refine wpAnyH_ready (rs := [3]) (by kernel_rfl) (by simp) ?_
      refine AllReadyH.cons rfl (fun K hK => ?_) AllReadyH.nil
      go_simp
      (go_at_call 8; refine (HEB.out _ _ _ _ _ (LRow.below l9.out hb1) (SRow.below s9.out hb1) hl1.lrow (OStrs.strs hs1)).mono ?_; rintro e x2 ⟨rfl, hq2⟩; have hb0 := bel2 hb1 hq2)
      try (go_wp2_with fail)
      refine hK.out _ _ ?_ (fun hHeld => ?_)
      · exact KF.out _ hb0
      clear hK K
      try simp only [Act.put, List.setIfInBounds_toArray, List.set_cons_zero, List.set_cons_succ]
      refine TK.take_at 4 (some 44) (v := ?vc4) rfl rfl (by kernel_rfl) (by kernel_rfl) (by kernel_rfl) (fun _ _ _ h => h) (Or.inl ⟨rfl, ?hc4⟩) hHeld ?rc4
      case hc4 => intro wq hSw; (try dsimp only at hSw); go_simp; all_goals (with_reducible rfl)
      try simp only [Act.put, List.setIfInBounds_toArray, List.set_cons_zero, List.set_cons_succ]
      refine wpAnyH_done (by kernel_rfl) ?_ _
      go_wp2_with fail
      go_ret
      exact ⟨rfl, bel2 b7.out hb0⟩
end Go.Proofs.YtkpjdmmgdmbmnabDoor.YExtends
