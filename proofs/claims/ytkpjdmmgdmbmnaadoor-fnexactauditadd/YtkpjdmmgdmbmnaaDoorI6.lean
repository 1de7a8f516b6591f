/-
  Does a log go on from another one: in the specification.
-/
import Derived.Test.YtkpjdmmgdmbmnaaDoorI5
import Derived.Deep.RegionHeld3
namespace Go.Proofs.YtkpjdmmgdmbmnaaDoor.I6
open Go.RowKit
open Go.Proofs.YtkpjdmmgdmbmnaaDoor.C0 Go.Proofs.YtkpjdmmgdmbmnaaDoor.HB
open Go.Proofs.YtkpjdmmgdmbmnaaDoor.A0 Go.Proofs.YtkpjdmmgdmbmnaaDoor.A1 Go.Proofs.YtkpjdmmgdmbmnaaDoor.A2 Go.Proofs.YtkpjdmmgdmbmnaaDoor.A3 Go.Proofs.YtkpjdmmgdmbmnaaDoor.A4 Go.Proofs.YtkpjdmmgdmbmnaaDoor.I1 Go.Proofs.YtkpjdmmgdmbmnaaDoor.I2 Go.Proofs.YtkpjdmmgdmbmnaaDoor.I3 Go.Proofs.YtkpjdmmgdmbmnaaDoor.I4 Go.Proofs.YtkpjdmmgdmbmnaaDoor.I5
/-- Lines that lie, out of a row. -/
theorem lrow_at {w : World} {a : Option Addr} {cap : Nat} {ls : List Ln} (hv : LRow w (.slice a ls.length cap) ls) {k : Nat} (hk : k < ls.length) :
    ∃ b off, a = some ⟨b, off, none⟩ ∧ b < w.heap.size ∧ ∃ vc, IRow w vc (lAt ls k).cards ∧ w.cell? ⟨b, off + k * 4, none⟩ = some (.int .i64 (lAt ls k).kind) ∧ w.cell? ⟨b, off + k * 4 + 1, none⟩ = some (.string (lAt ls k).name) ∧ w.cell? ⟨b, off + k * 4 + 2, none⟩ = some (.string (lAt ls k).sum) ∧ w.cell? ⟨b, off + k * 4 + 3, none⟩ = some vc := by
  obtain ⟨a', cap', he, hl, hc⟩ := hv
  cases he
  obtain ⟨b, off, rfl, hb, hcc⟩ := hc (by omega)
  obtain ⟨vc, h1, h2, h3, h4, h5⟩ := hcc k _ (lAt_get hk)
  exact ⟨b, off, rfl, hb, vc, h1, h2, h3, h4, h5⟩
set_option maxRecDepth 100000 in
set_option maxHeartbeats 3200000 in
theorem same_spec (x y : Ln) (vc vd : Value) (w : World) (hv : IRow w vc x.cards) (hu : IRow w vd y.cards) (wx : LnW x) (wy : LnW y) (hx : lineB x = true) (hy : lineB y = true) :
    Calls Tryd.prog 47 #[lnV x vc, lnV y vd] w fun e w' => e = .returned (.bool (sameB x y)) ∧ Below w.heap.size w w' := by
  have HQ : Hid (((lineT x).toList == (lineT y).toList) = sameB x y) := text_same hx hy wx wy
  have CX : Hid (∀ W, Below w.heap.size w W → Calls Tryd.prog 51 #[lnV x vc] W fun e w' => e = .returned (.string (lineT x)) ∧ Below W.heap.size W w') := fun W hW => A2.text_spec x vc W (hv.below hW) wx.1 wx.2.1 wx.2.2.1.1 wx.2.2.1.2 wx.2.2.2 (by have := (line_small hx).1; omega)
  have CY : Hid (∀ W, Below w.heap.size w W → Calls Tryd.prog 51 #[lnV y vd] W fun e w' => e = .returned (.string (lineT y)) ∧ Below W.heap.size W w') := fun W hW => A2.text_spec y vd W (hu.below hW) wy.1 wy.2.1 wy.2.2.1.1 wy.2.2.1.2 wy.2.2.2 (by have := (line_small hy).1; omega)
  obtain ⟨a, cap, rfl, _, _⟩ := hv
  obtain ⟨a2, cap2, rfl, _, _⟩ := hu
  obtain ⟨k1, n1, s1, c1⟩ := x
  obtain ⟨k2, n2, s2, c2⟩ := y
  unfold lnV at CX CY ⊢
  dsimp only at CX CY ⊢
  clear wx wy hx hy
  generalize lineT ⟨k1, n1, s1, c1⟩ = t1 at *
  generalize lineT ⟨k2, n2, s2, c2⟩ = t2 at *
  generalize sameB ⟨k1, n1, s1, c1⟩ ⟨k2, n2, s2, c2⟩ = r at *
  have hq : (t1.toList == t2.toList) = r := HQ.out
  have KA := heap_alloc_new w (.cells #[.int .i64 k1, .string n1, .string s1, .slice a c1.length cap] 29)
  have BA := albel w (.cells #[.int .i64 k1, .string n1, .string s1, .slice a c1.length cap] 29)
  have KA2 := carryA KA (.cells #[.int .i64 k2, .string n2, .string s2, .slice a2 c2.length cap2] 29)
  have BA2 := BA.alloc BA.size (.cells #[.int .i64 k2, .string n2, .string s2, .slice a2 c2.length cap2] 29)
  have KB2 := heap_alloc_new (w.alloc (.cells #[.int .i64 k1, .string n1, .string s1, .slice a c1.length cap] 29)) (.cells #[.int .i64 k2, .string n2, .string s2, .slice a2 c2.length cap2] 29)
  rw [asz] at KB2
  clear KA BA HQ
  go_enter Tryd.func47, Tryd.ntmps47
  go_upto_region 1 with fail
  generalize hW : (w.alloc (.cells #[.int .i64 k1, .string n1, .string s1, .slice a c1.length cap] 29)).alloc (.cells #[.int .i64 k2, .string n2, .string s2, .slice a2 c2.length cap2] 29) = W at *
  have HKA : Hid _ := KA2
  have HKB : Hid _ := KB2
  have HB : Hid (Below w.heap.size w W) := BA2
  clear KA2 KB2 BA2 hW
  have KF : Hid (∀ y, Below W.heap.size W y → (y.cell? ⟨w.heap.size, 0, none⟩ = some (.int .i64 k1) ∧ y.cell? ⟨w.heap.size, 1, none⟩ = some (.string n1) ∧ y.cell? ⟨w.heap.size, 2, none⟩ = some (.string s1) ∧ y.cell? ⟨w.heap.size, 3, none⟩ = some (.slice a c1.length cap)) ∧ (y.cell? ⟨w.heap.size + 1, 0, none⟩ = some (.int .i64 k2) ∧ y.cell? ⟨w.heap.size + 1, 1, none⟩ = some (.string n2) ∧ y.cell? ⟨w.heap.size + 1, 2, none⟩ = some (.string s2) ∧ y.cell? ⟨w.heap.size + 1, 3, none⟩ = some (.slice a2 c2.length cap2))) := fun y hy => ⟨kept4s HKA.out hy, kept4s HKB.out hy⟩
  have hb0 : Below W.heap.size W W.drew := (Below.refl _ _).drew
  refine wp_region_held_drew (S := (fun y => (y.cell? ⟨w.heap.size, 0, none⟩ = some (.int .i64 k1) ∧ y.cell? ⟨w.heap.size, 1, none⟩ = some (.string n1) ∧ y.cell? ⟨w.heap.size, 2, none⟩ = some (.string s1) ∧ y.cell? ⟨w.heap.size, 3, none⟩ = some (.slice a c1.length cap)) ∧ (y.cell? ⟨w.heap.size + 1, 0, none⟩ = some (.int .i64 k2) ∧ y.cell? ⟨w.heap.size + 1, 1, none⟩ = some (.string n2) ∧ y.cell? ⟨w.heap.size + 1, 2, none⟩ = some (.string s2) ∧ y.cell? ⟨w.heap.size + 1, 3, none⟩ = some (.slice a2 c2.length cap2)))) (by kernel_rfl) (KF.out _ hb0) (fun hHeld => ?_)
  refine TK.take_at 0 (some 5) (v := ?va0) rfl rfl (by kernel_rfl) (by kernel_rfl) (by kernel_rfl) (fun _ _ _ h => h) (Or.inl ⟨rfl, ?ha0⟩) hHeld ?ra0
  case ha0 => intro wq hSw; (try dsimp only at hSw); go_simp; all_goals (with_reducible rfl)
  try simp only [Act.put, List.setIfInBounds_toArray, List.set_cons_zero, List.set_cons_succ]
  refine TK.take_at 2 (some 7) (v := ?va2) rfl rfl (by kernel_rfl) (by kernel_rfl) (by kernel_rfl) (fun _ _ _ h => h) (Or.inl ⟨rfl, ?ha2⟩) hHeld ?ra2
  case ha2 => intro wq hSw; (try dsimp only at hSw); go_simp; all_goals (with_reducible rfl)
  try simp only [Act.put, List.setIfInBounds_toArray, List.set_cons_zero, List.set_cons_succ]
  refine wpAnyH_ready (rs := [1]) (by kernel_rfl) (by simp) ?_
  refine AllReadyH.cons rfl (fun K hK => ?_) AllReadyH.nil
  go_simp
  (go_at_call 51; refine (CX.out _ (bel2 HB.out hb0)).mono ?_; rintro e x1 ⟨rfl, hq1⟩; have hb0 := bel2 hb0 hq1; clear hq1)
  try (go_wp2_with fail)
  refine hK.out _ _ ?_ (fun hHeld => ?_)
  · exact KF.out _ hb0
  clear hK K
  try simp only [Act.put, List.setIfInBounds_toArray, List.set_cons_zero, List.set_cons_succ]
  refine wpAnyH_ready (rs := [3]) (by kernel_rfl) (by simp) ?_
  refine AllReadyH.cons rfl (fun K hK => ?_) AllReadyH.nil
  go_simp
  (go_at_call 51; refine (CY.out _ (bel2 HB.out hb0)).mono ?_; rintro e x2 ⟨rfl, hq1⟩; have hb0 := bel2 hb0 hq1; clear hq1)
  try (go_wp2_with fail)
  refine hK.out _ _ ?_ (fun hHeld => ?_)
  · exact KF.out _ hb0
  clear hK K
  try simp only [Act.put, List.setIfInBounds_toArray, List.set_cons_zero, List.set_cons_succ]
  refine TK.take_at 4 (some 9) (v := ?va4) rfl rfl (by kernel_rfl) (by kernel_rfl) (by kernel_rfl) (fun _ _ _ h => h) (Or.inl ⟨rfl, ?ha4⟩) hHeld ?ra4
  case ha4 => intro wq hSw; (try dsimp only at hSw); go_simp; all_goals (with_reducible rfl)
  try simp only [Act.put, List.setIfInBounds_toArray, List.set_cons_zero, List.set_cons_succ]
  refine TK.take_at 5 (some 4) (v := ?va5) rfl rfl (by kernel_rfl) (by kernel_rfl) (by kernel_rfl) (fun _ _ _ h => h) (Or.inl ⟨rfl, ?ha5⟩) hHeld ?ra5
  case ha5 => intro wq hSw; (try dsimp only at hSw); go_simp; all_goals (with_reducible rfl)
  try simp only [Act.put, List.setIfInBounds_toArray, List.set_cons_zero, List.set_cons_succ]
  refine wpAnyH_done (by kernel_rfl) ?_ _
  go_wp2_with fail
  go_ret
  exact ⟨by rw [← hq]; rfl, bel2 HB.out hb0⟩
set_option maxRecDepth 100000 in
set_option maxHeartbeats 3200000 in
theorem ext_spec (va ka vb kb : Value) (la lb : List Ln) (sa sb : List ByteArray) (w : World) (hva : LRow w va la) (hka : SRow w ka sa) (hvb : LRow w vb lb) (hkb : SRow w kb sb) (wa : ∀ x ∈ la, LnW x) (wb : ∀ x ∈ lb, LnW x) :
    Calls Tryd.prog 15 #[.agg #[va, ka], .agg #[vb, kb]] w fun e w' => e = .returned (.bool (extR la sa lb sb)) ∧ Below w.heap.size w w' := by
  have CA : Hid (∀ W, Below w.heap.size w W → Calls Tryd.prog 23 #[.agg #[va, ka]] W fun e w' => e = .returned (.bool (auditB linkT la sa)) ∧ Below W.heap.size W w') := fun W hW => rightS va ka la sa W (hva.below hW) (hka.below hW) wa
  have CB : Hid (∀ W, Below w.heap.size w W → Calls Tryd.prog 23 #[.agg #[vb, kb]] W fun e w' => e = .returned (.bool (auditB linkT lb sb)) ∧ Below W.heap.size W w') := fun W hW => rightS vb kb lb sb W (hvb.below hW) (hkb.below hW) wb
  have HD : Hid (extR la sa lb sb = (auditB linkT la sa && (auditB linkT lb sb && (decide (la.length ≤ lb.length) && upS la lb la.length)))) := rfl
  have hva' := hva
  have hvb' := hvb
  obtain ⟨a1, c1, rfl, hl1, _⟩ := hva
  obtain ⟨a2, c2, rfl, _, _⟩ := hka
  obtain ⟨a3, c3, rfl, hl3, _⟩ := hvb
  obtain ⟨a4, c4, rfl, _, _⟩ := hkb
  unfold maxLen at hl1 hl3
  have KA := heap_alloc_new w (.cells #[.slice a1 la.length c1, .slice a2 sa.length c2] 26)
  have BA := albel w (.cells #[.slice a1 la.length c1, .slice a2 sa.length c2] 26)
  have KA2 := carryA KA (.cells #[.slice a3 lb.length c3, .slice a4 sb.length c4] 26)
  have BA2 := BA.alloc BA.size (.cells #[.slice a3 lb.length c3, .slice a4 sb.length c4] 26)
  have KB2 := heap_alloc_new (w.alloc (.cells #[.slice a1 la.length c1, .slice a2 sa.length c2] 26)) (.cells #[.slice a3 lb.length c3, .slice a4 sb.length c4] 26)
  rw [asz] at KB2
  clear KA BA
  have HKA : Hid _ := KA2
  have HKB : Hid _ := KB2
  have HB : Hid _ := BA2
  clear KA2 KB2 BA2
  cases ra : auditB linkT la sa with
  | false =>
    have HV : Hid (extR la sa lb sb = false) := by unfold Hid; rw [HD.out, ra]; rfl
    rw [HV.out]
    rw [ra] at CA
    clear HD HV CB hva' hvb' HKA HKB wa wb
    go_enter Tryd.func15, Tryd.ntmps15
    go_wp2_with fail
    refine (CA.out _ HB.out).mono ?_
    rintro e w1 ⟨rfl, hb1⟩
    have HB1 : Hid (Below w.heap.size w w1) := bel2 HB.out hb1
    clear hb1
    go_wp2
    go_ret
    exact ⟨rfl, HB1.out⟩
  | true =>
    rw [ra] at CA
    cases rb : auditB linkT lb sb with
    | false =>
      have HV : Hid (extR la sa lb sb = false) := by unfold Hid; rw [HD.out, ra, rb]; rfl
      rw [HV.out]
      rw [rb] at CB
      clear HD HV hva' hvb' HKA wa wb
      go_enter Tryd.func15, Tryd.ntmps15
      go_wp2_with fail
      refine (CA.out _ HB.out).mono ?_
      rintro e w1 ⟨rfl, hb1⟩
      have HB1 : Hid (Below w.heap.size w w1) := bel2 HB.out hb1
      obtain ⟨c0, c1, cf⟩ := blk2a (carry HKB.out hb1)
      clear hb1
      go_wp2_with fail
      refine (CB.out _ HB1.out).mono ?_
      rintro e w2 ⟨rfl, hb2⟩
      have HB2 : Hid (Below w.heap.size w w2) := bel2 HB1.out hb2
      clear hb2
      go_wp2
      go_ret
      exact ⟨rfl, HB2.out⟩
    | true =>
      rw [rb] at CB
      by_cases hle : la.length ≤ lb.length
      · have HV : Hid (extR la sa lb sb = upS la lb la.length) := by unfold Hid; rw [HD.out, ra, rb, decide_eq_true hle]; rfl
        rw [HV.out]
        have t1 : decide ((lb.length : Int) < (la.length : Int)) = false := decide_eq_false (by omega)
        have t1n : decide (lb.length < la.length) = false := decide_eq_false (by omega)
        have HLA : Hid (∀ k, k < la.length → lineB (lAt la k) = true ∧ LnW (lAt la k)) := fun k hk => ⟨audit_line ra hk, wa _ (List.mem_of_getElem? (lAt_get hk))⟩
        have HLB : Hid (∀ k, k < lb.length → lineB (lAt lb k) = true ∧ LnW (lAt lb k)) := fun k hk => ⟨audit_line rb hk, wb _ (List.mem_of_getElem? (lAt_get hk))⟩
        clear HD ra rb wa wb
        go_enter Tryd.func15, Tryd.ntmps15
        go_wp2_with fail
        refine (CA.out _ HB.out).mono ?_
        rintro e w1 ⟨rfl, hb1⟩
        have HB1 : Hid (Below w.heap.size w w1) := bel2 HB.out hb1
        have KA1 : Hid _ := carry HKA.out hb1
        have KB1 : Hid _ := carry HKB.out hb1
        obtain ⟨q0, q1, qf⟩ := blk2a KB1.out
        clear hb1 HKA HKB HB CA
        go_wp2_with fail
        refine (CB.out _ HB1.out).mono ?_
        rintro e w2 ⟨rfl, hb2⟩
        have HB2 : Hid (Below w.heap.size w w2) := bel2 HB1.out hb2
        have KA3 : Hid _ := carry KA1.out hb2
        have KB3 : Hid _ := carry KB1.out hb2
        clear hb2 q0 q1 qf KA1 KB1 HB1 CB
        obtain ⟨q0, q1, qf⟩ := blk2a KA3.out
        obtain ⟨p0, p1, pf⟩ := blk2a KB3.out
        go_wp2_with fail
        clear q0 q1 qf p0 p1 pf
        go_loopw [5] (fun i x => ∃ k : Nat, k ≤ la.length ∧ i = .int .i64 (k : Nat) ∧ upS la lb k = true ∧ Below w2.heap.size w2 x) (fun i _ => la.length - (intOf i).toNat)
        case atStart => exact ⟨0, Nat.zero_le _, rfl, rfl, Below.refl _ _⟩
        case round =>
          obtain ⟨k, hk, rfl, hup, hbel⟩ := hrel
          obtain ⟨q0, q1, qf⟩ := blk2a (carry KA3.out hbel)
          obtain ⟨p0, p1, pf⟩ := blk2a (carry KB3.out hbel)
          by_cases hlt : k < la.length
          · have hlt' : (k : Int) < (la.length : Int) := by omega
            have hlt2 : (k : Int) < (lb.length : Int) := by omega
            have HW : Hid (Below w.heap.size w wr) := bel2 HB2.out hbel
            have HWR : Hid (Below w2.heap.size w2 wr) := hbel
            obtain ⟨b, off, rfl, hb, vc, hi, x0, x1, x2, x3⟩ := lrow_at hva' hlt
            obtain ⟨b2, off2, rfl, hb2, vd, hj, y0, y1, y2, y3⟩ := lrow_at hvb' (show k < lb.length by omega)
            have X0 : Hid _ := x0
            have X1 : Hid _ := x1
            have X2 : Hid _ := x2
            have X3 : Hid _ := x3
            have Y0 : Hid _ := y0
            have Y1 : Hid _ := y1
            have Y2 : Hid _ := y2
            have Y3 : Hid _ := y3
            clear x0 x1 x2 x3 y0 y1 y2 y3
            have h1 := HLA.out k hlt
            have h2 := HLB.out k (by omega)
            have HS : Hid (∀ W, Below w.heap.size w W → Calls Tryd.prog 47 #[lnV (lAt la k) vc, lnV (lAt lb k) vd] W fun e w' => e = .returned (.bool (sameB (lAt la k) (lAt lb k))) ∧ Below W.heap.size W w') := fun W hW => same_spec _ _ vc vd W (hi.below hW) (hj.below hW) h1.2 h2.2 h1.1 h2.1
            have HNO : Hid (sameB (lAt la k) (lAt lb k) = false → upS la lb la.length = false) := fun h => upS_no h _ hlt
            have HYES : Hid (sameB (lAt la k) (lAt lb k) = true → upS la lb (k + 1) = true) := fun h => upS_yes hup h
            unfold lnV at HS
            generalize lAt la k = xk at *
            generalize lAt lb k = yk at *
            have KF : Hid (∀ y, Below w2.heap.size w2 y → (y.cell? ⟨w.heap.size, 0, none⟩ = some (.slice (some ⟨b, off, none⟩) la.length c1) ∧ y.cell? ⟨w.heap.size + 1, 0, none⟩ = some (.slice (some ⟨b2, off2, none⟩) lb.length c3)) ∧ (y.cell? ⟨b, off + k * 4, none⟩ = some (.int .i64 xk.kind) ∧ y.cell? ⟨b, off + k * 4 + 1, none⟩ = some (.string xk.name) ∧ y.cell? ⟨b, off + k * 4 + 2, none⟩ = some (.string xk.sum) ∧ y.cell? ⟨b, off + k * 4 + 3, none⟩ = some vc) ∧ (y.cell? ⟨b2, off2 + k * 4, none⟩ = some (.int .i64 yk.kind) ∧ y.cell? ⟨b2, off2 + k * 4 + 1, none⟩ = some (.string yk.name) ∧ y.cell? ⟨b2, off2 + k * 4 + 2, none⟩ = some (.string yk.sum) ∧ y.cell? ⟨b2, off2 + k * 4 + 3, none⟩ = some vd)) := fun y hy => by
              have hz := bel2 HB2.out hy
              exact ⟨⟨block_cell (carry KA3.out hy) 0, block_cell (carry KB3.out hy) 0⟩, ⟨(hz.cell (p := ⟨b, off + k * 4, none⟩) hb).trans X0.out, (hz.cell (p := ⟨b, off + k * 4 + 1, none⟩) hb).trans X1.out, (hz.cell (p := ⟨b, off + k * 4 + 2, none⟩) hb).trans X2.out, (hz.cell (p := ⟨b, off + k * 4 + 3, none⟩) hb).trans X3.out⟩,
                (hz.cell (p := ⟨b2, off2 + k * 4, none⟩) hb2).trans Y0.out, (hz.cell (p := ⟨b2, off2 + k * 4 + 1, none⟩) hb2).trans Y1.out, (hz.cell (p := ⟨b2, off2 + k * 4 + 2, none⟩) hb2).trans Y2.out, (hz.cell (p := ⟨b2, off2 + k * 4 + 3, none⟩) hb2).trans Y3.out⟩
            clear hbel hi hj h1 h2 hup hva' hvb' HLA HLB HV hb hb2 X0 X1 X2 X3 Y0 Y1 Y2 Y3
            cases hs : sameB xk yk with
            | false =>
              have HN : Hid (upS la lb la.length = false) := HNO.out hs
              rw [hs] at HS
              clear HNO HYES hs
              go_upto_region 6 with fail
              have hb0 : Below w2.heap.size w2 wr.drew := HWR.out.drew
              refine wp_region_held_drew (S := (fun y => (y.cell? ⟨w.heap.size, 0, none⟩ = some (.slice (some ⟨b, off, none⟩) la.length c1) ∧ y.cell? ⟨w.heap.size + 1, 0, none⟩ = some (.slice (some ⟨b2, off2, none⟩) lb.length c3)) ∧ (y.cell? ⟨b, off + k * 4, none⟩ = some (.int .i64 xk.kind) ∧ y.cell? ⟨b, off + k * 4 + 1, none⟩ = some (.string xk.name) ∧ y.cell? ⟨b, off + k * 4 + 2, none⟩ = some (.string xk.sum) ∧ y.cell? ⟨b, off + k * 4 + 3, none⟩ = some vc) ∧ (y.cell? ⟨b2, off2 + k * 4, none⟩ = some (.int .i64 yk.kind) ∧ y.cell? ⟨b2, off2 + k * 4 + 1, none⟩ = some (.string yk.name) ∧ y.cell? ⟨b2, off2 + k * 4 + 2, none⟩ = some (.string yk.sum) ∧ y.cell? ⟨b2, off2 + k * 4 + 3, none⟩ = some vd))) (by kernel_rfl) (KF.out _ hb0) (fun hHeld => ?_)
              refine TK.take_at 0 (some 30) (v := ?va0) rfl rfl (by kernel_rfl) (by kernel_rfl) (by kernel_rfl) (fun _ _ _ h => h) (Or.inl ⟨rfl, ?ha0⟩) hHeld ?ra0
              case ha0 => intro wq hSw; (try dsimp only at hSw); go_simp; all_goals (with_reducible rfl)
              try simp only [Act.put, List.setIfInBounds_toArray, List.set_cons_zero, List.set_cons_succ]
              refine TK.take_at 1 (some 31) (v := ?va1) rfl rfl (by kernel_rfl) (by kernel_rfl) (by kernel_rfl) (fun _ _ _ h => h) (Or.inl ⟨rfl, ?ha1⟩) hHeld ?ra1
              case ha1 => intro wq hSw; (try dsimp only at hSw); go_simp; all_goals (with_reducible rfl)
              try simp only [Act.put, List.setIfInBounds_toArray, List.set_cons_zero, List.set_cons_succ]
              refine TK.take_at 2 (some 32) (v := ?va2) rfl rfl (by kernel_rfl) (by kernel_rfl) (by kernel_rfl) (fun _ _ _ h => h) (Or.inl ⟨rfl, ?ha2⟩) hHeld ?ra2
              case ha2 => intro wq hSw; (try dsimp only at hSw); go_simp; all_goals (with_reducible rfl)
              try simp only [Act.put, List.setIfInBounds_toArray, List.set_cons_zero, List.set_cons_succ]
              refine TK.take_at 3 (some 33) (v := ?va3) rfl rfl (by kernel_rfl) (by kernel_rfl) (by kernel_rfl) (fun _ _ _ h => h) (Or.inl ⟨rfl, ?ha3⟩) hHeld ?ra3
              case ha3 => intro wq hSw; (try dsimp only at hSw); go_simp; all_goals (with_reducible rfl)
              try simp only [Act.put, List.setIfInBounds_toArray, List.set_cons_zero, List.set_cons_succ]
              refine TK.take_at 4 (some 34) (v := ?va4) rfl rfl (by kernel_rfl) (by kernel_rfl) (by kernel_rfl) (fun _ _ _ h => h) (Or.inl ⟨rfl, ?ha4⟩) hHeld ?ra4
              case ha4 => intro wq hSw; (try dsimp only at hSw); go_simp; all_goals (with_reducible rfl)
              try simp only [Act.put, List.setIfInBounds_toArray, List.set_cons_zero, List.set_cons_succ]
              refine TK.take_at 5 (some 35) (v := ?va5) rfl rfl (by kernel_rfl) (by kernel_rfl) (by kernel_rfl) (fun _ _ _ h => h) (Or.inl ⟨rfl, ?ha5⟩) hHeld ?ra5
              case ha5 => intro wq hSw; (try dsimp only at hSw); go_simp; all_goals (with_reducible rfl)
              try simp only [Act.put, List.setIfInBounds_toArray, List.set_cons_zero, List.set_cons_succ]
              refine TK.take_at 6 (some 36) (v := ?va6) rfl rfl (by kernel_rfl) (by kernel_rfl) (by kernel_rfl) (fun _ _ _ h => h) (Or.inl ⟨rfl, ?ha6⟩) hHeld ?ra6
              case ha6 => intro wq hSw; (try dsimp only at hSw); go_simp; all_goals (with_reducible rfl)
              try simp only [Act.put, List.setIfInBounds_toArray, List.set_cons_zero, List.set_cons_succ]
              refine TK.take_at 7 (some 37) (v := ?va7) rfl rfl (by kernel_rfl) (by kernel_rfl) (by kernel_rfl) (fun _ _ _ h => h) (Or.inl ⟨rfl, ?ha7⟩) hHeld ?ra7
              case ha7 => intro wq hSw; (try dsimp only at hSw); go_simp; all_goals (with_reducible rfl)
              try simp only [Act.put, List.setIfInBounds_toArray, List.set_cons_zero, List.set_cons_succ]
              refine TK.take_at 8 (some 38) (v := ?va8) rfl rfl (by kernel_rfl) (by kernel_rfl) (by kernel_rfl) (fun _ _ _ h => h) (Or.inl ⟨rfl, ?ha8⟩) hHeld ?ra8
              case ha8 => intro wq hSw; (try dsimp only at hSw); go_simp; all_goals (with_reducible rfl)
              try simp only [Act.put, List.setIfInBounds_toArray, List.set_cons_zero, List.set_cons_succ]
              refine TK.take_at 9 (some 39) (v := ?va9) rfl rfl (by kernel_rfl) (by kernel_rfl) (by kernel_rfl) (fun _ _ _ h => h) (Or.inl ⟨rfl, ?ha9⟩) hHeld ?ra9
              case ha9 => intro wq hSw; (try dsimp only at hSw); go_simp; all_goals (with_reducible rfl)
              try simp only [Act.put, List.setIfInBounds_toArray, List.set_cons_zero, List.set_cons_succ]
              refine wpAnyH_ready (rs := [10]) (by kernel_rfl) (by simp) ?_
              refine AllReadyH.cons rfl (fun K hK => ?_) AllReadyH.nil
              go_simp
              (go_at_call 47; refine (HS.out _ (bel2 HB2.out hb0)).mono ?_; rintro e x1 ⟨rfl, hq⟩; have hb0 := bel2 hb0 hq; clear hq)
              try (go_wp2_with fail)
              refine hK.out _ _ ?_ (fun hHeld => ?_)
              · exact KF.out _ hb0
              clear hK K
              try simp only [Act.put, List.setIfInBounds_toArray, List.set_cons_zero, List.set_cons_succ]
              refine TK.take_at 11 (some 41) (v := ?va11) rfl rfl (by kernel_rfl) (by kernel_rfl) (by kernel_rfl) (fun _ _ _ h => h) (Or.inl ⟨rfl, ?ha11⟩) hHeld ?ra11
              case ha11 => intro wq hSw; (try dsimp only at hSw); go_simp; all_goals (with_reducible rfl)
              try simp only [Act.put, List.setIfInBounds_toArray, List.set_cons_zero, List.set_cons_succ]
              refine wpAnyH_done (by kernel_rfl) ?_ _
              go_wp2_with fail
              go_ret
              exact ⟨by rw [HN.out]; rfl, bel2 HB2.out hb0⟩
            | true =>
              have HN : Hid (upS la lb (k + 1) = true) := HYES.out hs
              rw [hs] at HS
              clear HNO HYES hs
              go_upto_region 6 with fail
              go_cut [41] from 23 to 41 (fun s y => s = .bool false ∧ Below w2.heap.size w2 y)
              case first =>
                have hb0 : Below w2.heap.size w2 wr.drew := HWR.out.drew
                refine wp_region_held_drew (S := (fun y => (y.cell? ⟨w.heap.size, 0, none⟩ = some (.slice (some ⟨b, off, none⟩) la.length c1) ∧ y.cell? ⟨w.heap.size + 1, 0, none⟩ = some (.slice (some ⟨b2, off2, none⟩) lb.length c3)) ∧ (y.cell? ⟨b, off + k * 4, none⟩ = some (.int .i64 xk.kind) ∧ y.cell? ⟨b, off + k * 4 + 1, none⟩ = some (.string xk.name) ∧ y.cell? ⟨b, off + k * 4 + 2, none⟩ = some (.string xk.sum) ∧ y.cell? ⟨b, off + k * 4 + 3, none⟩ = some vc) ∧ (y.cell? ⟨b2, off2 + k * 4, none⟩ = some (.int .i64 yk.kind) ∧ y.cell? ⟨b2, off2 + k * 4 + 1, none⟩ = some (.string yk.name) ∧ y.cell? ⟨b2, off2 + k * 4 + 2, none⟩ = some (.string yk.sum) ∧ y.cell? ⟨b2, off2 + k * 4 + 3, none⟩ = some vd))) (by kernel_rfl) (KF.out _ hb0) (fun hHeld => ?_)
                refine TK.take_at 0 (some 30) (v := ?vb0) rfl rfl (by kernel_rfl) (by kernel_rfl) (by kernel_rfl) (fun _ _ _ h => h) (Or.inl ⟨rfl, ?hb0⟩) hHeld ?rb0
                case hb0 => intro wq hSw; (try dsimp only at hSw); go_simp; all_goals (with_reducible rfl)
                try simp only [Act.put, List.setIfInBounds_toArray, List.set_cons_zero, List.set_cons_succ]
                refine TK.take_at 1 (some 31) (v := ?vb1) rfl rfl (by kernel_rfl) (by kernel_rfl) (by kernel_rfl) (fun _ _ _ h => h) (Or.inl ⟨rfl, ?hb1⟩) hHeld ?rb1
                case hb1 => intro wq hSw; (try dsimp only at hSw); go_simp; all_goals (with_reducible rfl)
                try simp only [Act.put, List.setIfInBounds_toArray, List.set_cons_zero, List.set_cons_succ]
                refine TK.take_at 2 (some 32) (v := ?vb2) rfl rfl (by kernel_rfl) (by kernel_rfl) (by kernel_rfl) (fun _ _ _ h => h) (Or.inl ⟨rfl, ?hb2⟩) hHeld ?rb2
                case hb2 => intro wq hSw; (try dsimp only at hSw); go_simp; all_goals (with_reducible rfl)
                try simp only [Act.put, List.setIfInBounds_toArray, List.set_cons_zero, List.set_cons_succ]
                refine TK.take_at 3 (some 33) (v := ?vb3) rfl rfl (by kernel_rfl) (by kernel_rfl) (by kernel_rfl) (fun _ _ _ h => h) (Or.inl ⟨rfl, ?hb3⟩) hHeld ?rb3
                case hb3 => intro wq hSw; (try dsimp only at hSw); go_simp; all_goals (with_reducible rfl)
                try simp only [Act.put, List.setIfInBounds_toArray, List.set_cons_zero, List.set_cons_succ]
                refine TK.take_at 4 (some 34) (v := ?vb4) rfl rfl (by kernel_rfl) (by kernel_rfl) (by kernel_rfl) (fun _ _ _ h => h) (Or.inl ⟨rfl, ?hb4⟩) hHeld ?rb4
                case hb4 => intro wq hSw; (try dsimp only at hSw); go_simp; all_goals (with_reducible rfl)
                try simp only [Act.put, List.setIfInBounds_toArray, List.set_cons_zero, List.set_cons_succ]
                refine TK.take_at 5 (some 35) (v := ?vb5) rfl rfl (by kernel_rfl) (by kernel_rfl) (by kernel_rfl) (fun _ _ _ h => h) (Or.inl ⟨rfl, ?hb5⟩) hHeld ?rb5
                case hb5 => intro wq hSw; (try dsimp only at hSw); go_simp; all_goals (with_reducible rfl)
                try simp only [Act.put, List.setIfInBounds_toArray, List.set_cons_zero, List.set_cons_succ]
                refine TK.take_at 6 (some 36) (v := ?vb6) rfl rfl (by kernel_rfl) (by kernel_rfl) (by kernel_rfl) (fun _ _ _ h => h) (Or.inl ⟨rfl, ?hb6⟩) hHeld ?rb6
                case hb6 => intro wq hSw; (try dsimp only at hSw); go_simp; all_goals (with_reducible rfl)
                try simp only [Act.put, List.setIfInBounds_toArray, List.set_cons_zero, List.set_cons_succ]
                refine TK.take_at 7 (some 37) (v := ?vb7) rfl rfl (by kernel_rfl) (by kernel_rfl) (by kernel_rfl) (fun _ _ _ h => h) (Or.inl ⟨rfl, ?hb7⟩) hHeld ?rb7
                case hb7 => intro wq hSw; (try dsimp only at hSw); go_simp; all_goals (with_reducible rfl)
                try simp only [Act.put, List.setIfInBounds_toArray, List.set_cons_zero, List.set_cons_succ]
                refine TK.take_at 8 (some 38) (v := ?vb8) rfl rfl (by kernel_rfl) (by kernel_rfl) (by kernel_rfl) (fun _ _ _ h => h) (Or.inl ⟨rfl, ?hb8⟩) hHeld ?rb8
                case hb8 => intro wq hSw; (try dsimp only at hSw); go_simp; all_goals (with_reducible rfl)
                try simp only [Act.put, List.setIfInBounds_toArray, List.set_cons_zero, List.set_cons_succ]
                refine TK.take_at 9 (some 39) (v := ?vb9) rfl rfl (by kernel_rfl) (by kernel_rfl) (by kernel_rfl) (fun _ _ _ h => h) (Or.inl ⟨rfl, ?hb9⟩) hHeld ?rb9
                case hb9 => intro wq hSw; (try dsimp only at hSw); go_simp; all_goals (with_reducible rfl)
                try simp only [Act.put, List.setIfInBounds_toArray, List.set_cons_zero, List.set_cons_succ]
                refine wpAnyH_ready (rs := [10]) (by kernel_rfl) (by simp) ?_
                refine AllReadyH.cons rfl (fun K hK => ?_) AllReadyH.nil
                go_simp
                (go_at_call 47; refine (HS.out _ (bel2 HB2.out hb0)).mono ?_; rintro e x1 ⟨rfl, hq⟩; have hb0 := bel2 hb0 hq; clear hq)
                try (go_wp2_with fail)
                refine hK.out _ _ ?_ (fun hHeld => ?_)
                · exact KF.out _ hb0
                clear hK K
                try simp only [Act.put, List.setIfInBounds_toArray, List.set_cons_zero, List.set_cons_succ]
                refine TK.take_at 11 (some 41) (v := ?vb11) rfl rfl (by kernel_rfl) (by kernel_rfl) (by kernel_rfl) (fun _ _ _ h => h) (Or.inl ⟨rfl, ?hb11⟩) hHeld ?rb11
                case hb11 => intro wq hSw; (try dsimp only at hSw); go_simp; all_goals (with_reducible rfl)
                try simp only [Act.put, List.setIfInBounds_toArray, List.set_cons_zero, List.set_cons_succ]
                refine wpAnyH_done (by kernel_rfl) ?_ _
                go_wp2_with fail
                go_meet
                case rel => exact ⟨rfl, hb0⟩
              case rest =>
                obtain ⟨rfl, hb3⟩ := hcut
                have HB3 : Hid (Below w2.heap.size w2 wc) := hb3
                clear hb3 KF HS
                go_wp2_with fail
                go_roundw
                case rel => exact ⟨k + 1, by omega, by go_num, HN.out, HB3.out⟩
                case measure => simp [intOf]; omega
          · obtain rfl : k = la.length := by omega
            have HN : Hid (upS la lb la.length = true) := hup
            have HW : Hid (Below w.heap.size w wr) := bel2 HB2.out hbel
            clear hup hbel hva' hvb' HLA HLB HV
            go_wp2
            go_ret
            exact ⟨by rw [HN.out]; rfl, HW.out⟩
      · have HV : Hid (extR la sa lb sb = false) := by unfold Hid; rw [HD.out, ra, rb, decide_eq_false hle]; rfl
        rw [HV.out]
        have t1 : decide ((lb.length : Int) < (la.length : Int)) = true := decide_eq_true (by omega)
        clear HD HV hva' hvb' wa wb ra rb
        go_enter Tryd.func15, Tryd.ntmps15
        go_wp2_with fail
        refine (CA.out _ HB.out).mono ?_
        rintro e w1 ⟨rfl, hb1⟩
        have HB1 : Hid (Below w.heap.size w w1) := bel2 HB.out hb1
        have KA1 : Hid _ := carry HKA.out hb1
        have KB1 : Hid _ := carry HKB.out hb1
        obtain ⟨q0, q1, qf⟩ := blk2a KB1.out
        clear hb1 HKA HKB HB CA
        go_wp2_with fail
        refine (CB.out _ HB1.out).mono ?_
        rintro e w2 ⟨rfl, hb2⟩
        have HB2 : Hid (Below w.heap.size w w2) := bel2 HB1.out hb2
        obtain ⟨r0, r1, rf⟩ := blk2a (carry KA1.out hb2)
        obtain ⟨p0, p1, pf⟩ := blk2a (carry KB1.out hb2)
        clear hb2 q0 q1 qf KA1 KB1 HB1 CB
        go_wp2
        go_ret
        exact ⟨rfl, HB2.out⟩
end Go.Proofs.YtkpjdmmgdmbmnaaDoor.I6
