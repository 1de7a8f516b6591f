/-
  Does a log go on from another one: the program's face.
-/
import Derived.Test.YtkpjdmmgdmbmnabDoorI7
namespace Go.Proofs.YtkpjdmmgdmbmnabDoor.I8
open Go.RowKit
open Go.Proofs.YtkpjdmmgdmbmnabDoor.C0 Go.Proofs.YtkpjdmmgdmbmnabDoor.HB
open Go.Proofs.YtkpjdmmgdmbmnabDoor.A0 Go.Proofs.YtkpjdmmgdmbmnabDoor.A1 Go.Proofs.YtkpjdmmgdmbmnabDoor.A2 Go.Proofs.YtkpjdmmgdmbmnabDoor.A3 Go.Proofs.YtkpjdmmgdmbmnabDoor.A4 Go.Proofs.YtkpjdmmgdmbmnabDoor.I1 Go.Proofs.YtkpjdmmgdmbmnabDoor.I2 Go.Proofs.YtkpjdmmgdmbmnabDoor.I3 Go.Proofs.YtkpjdmmgdmbmnabDoor.I4 Go.Proofs.YtkpjdmmgdmbmnabDoor.I5 Go.Proofs.YtkpjdmmgdmbmnabDoor.I6 Go.Proofs.YtkpjdmmgdmbmnabDoor.I7
theorem lAt_take {l : List Ln} {n k : Nat} (h : k < n) : lAt (l.take n) k = lAt l k := by
  unfold lAt
  rw [List.getD_eq_getElem?_getD, List.getD_eq_getElem?_getD, List.getElem?_take, if_pos h]
theorem upS_take (la lb : List Ln) (n : Nat) : ∀ k, k ≤ n → upS la (lb.take n) k = upS la lb k
  | 0, _ => rfl
  | k + 1, h => by
    unfold upS
    rw [upS_take la lb n k (by omega), lAt_take (by omega)]
theorem lrow_take {w : World} {a : Option Addr} {cap n : Nat} {lb : List Ln} (h : LRow w (.slice a lb.length cap) lb) (hn : n ≤ lb.length) : LRow w (.slice a n cap) (lb.take n) := by
  obtain ⟨a', cap', he, hl, hc⟩ := h
  cases he
  have e : (lb.take n).length = n := by rw [List.length_take]; omega
  refine ⟨a, cap, by rw [e], by rw [e]; omega, fun h0 => ?_⟩
  rw [e] at h0
  obtain ⟨b, off, rfl, hb, hcc⟩ := hc (by omega)
  refine ⟨b, off, rfl, hb, fun i x hi => hcc i x ?_⟩
  rw [List.getElem?_take] at hi
  split at hi
  · exact hi
  · cases hi
set_option maxRecDepth 100000 in
set_option maxHeartbeats 3200000 in
theorem ext_impl (va ka kb : Value) (a3 : Option Addr) (c3 : Nat) (la lb : List Ln) (sa sb : List ByteArray) (w : World) (hL : K2.Laid w) (hva : LRow w va la) (hka : SRow w ka sa) (hvb : LRow w (.slice a3 lb.length c3) lb) (hc3 : lb.length ≤ c3) (hkb : SRow w kb sb) (wa : ∀ x ∈ la, LnW x) (wb : ∀ x ∈ lb, LnW x) :
    Calls Tryd.prog 7 #[.agg #[va, ka], .agg #[.slice a3 lb.length c3, kb]] w fun e w' => e = .returned (.bool (extR la sa lb sb)) ∧ Below w.heap.size w w' := by
  have CA : Hid (∀ W, Below w.heap.size w W → Calls Tryd.prog 15 #[.agg #[va, ka]] W fun e w' => e = .returned (.bool (auditB linkT la sa)) ∧ Below W.heap.size W w') := fun W hW => I3.right_impl va ka la sa W (hL.below hW) (hva.below hW) (hka.below hW) wa
  have CB : Hid (∀ W, Below w.heap.size w W → Calls Tryd.prog 15 #[.agg #[.slice a3 lb.length c3, kb]] W fun e w' => e = .returned (.bool (auditB linkT lb sb)) ∧ Below W.heap.size W w') := fun W hW => I3.right_impl _ kb lb sb W (hL.below hW) (hvb.below hW) (hkb.below hW) wb
  have HD : Hid (extR la sa lb sb = (auditB linkT la sa && (auditB linkT lb sb && (decide (la.length ≤ lb.length) && upS la lb la.length)))) := rfl
  have CE : Hid (la.length ≤ lb.length → ∀ W, Below w.heap.size w W → Calls Tryd.prog 16 #[va, .slice a3 la.length c3, .func (.func 17) #[] #[]] W fun e w' => e = .returned (.bool (upS la lb la.length)) ∧ Below W.heap.size W w') := fun h W hW => by
    have q := equalF_impl va (.slice a3 la.length c3) la (lb.take la.length) W (hva.below hW) ((lrow_take hvb h).below hW) (by rw [List.length_take]; omega)
    rw [upS_take _ _ _ _ (Nat.le_refl _)] at q
    exact q
  obtain ⟨a1, c1, rfl, hl1, _⟩ := hva
  obtain ⟨a2, c2, rfl, _, _⟩ := hka
  obtain ⟨a4, c4, rfl, _, _⟩ := hkb
  have hl3 : lb.length ≤ 9223372036854775807 := by obtain ⟨_, _, _, h, _⟩ := hvb; unfold maxLen at h; omega
  unfold maxLen at hl1
  have KA := heap_alloc_new w (.cells #[.slice a1 la.length c1, .slice a2 sa.length c2] 30)
  have BA := albel w (.cells #[.slice a1 la.length c1, .slice a2 sa.length c2] 30)
  have KA2 := carryA KA (.cells #[.slice a3 lb.length c3, .slice a4 sb.length c4] 30)
  have BA2 := BA.alloc BA.size (.cells #[.slice a3 lb.length c3, .slice a4 sb.length c4] 30)
  have KB2 := heap_alloc_new (w.alloc (.cells #[.slice a1 la.length c1, .slice a2 sa.length c2] 30)) (.cells #[.slice a3 lb.length c3, .slice a4 sb.length c4] 30)
  rw [asz] at KB2
  clear KA BA
  have HKA : Hid _ := KA2
  have HKB : Hid _ := KB2
  have HB : Hid _ := BA2
  clear KA2 KB2 BA2 hL wa wb hvb
  cases ra : auditB linkT la sa with
  | false =>
    have HV : Hid (extR la sa lb sb = false) := by unfold Hid; rw [HD.out, ra]; rfl
    rw [HV.out]
    rw [ra] at CA
    clear HD HV CB HKA HKB CE
    go_enter Tryd.func7, Tryd.ntmps7
    go_wp2_with fail
    refine (CA.out _ HB.out).mono ?_
    rintro e w1 ⟨rfl, hb1⟩
    have HB1 : Hid (Below w.heap.size w w1) := bel2 HB.out hb1
    clear hb1
    go_wp2
    go_ret
    exact ⟨rfl, HB1.out⟩
  | true =>
    rw [ra] at CA
    cases rb : auditB linkT lb sb with
    | false =>
      have HV : Hid (extR la sa lb sb = false) := by unfold Hid; rw [HD.out, ra, rb]; rfl
      rw [HV.out]
      rw [rb] at CB
      clear HD HV HKA CE
      go_enter Tryd.func7, Tryd.ntmps7
      go_wp2_with fail
      refine (CA.out _ HB.out).mono ?_
      rintro e w1 ⟨rfl, hb1⟩
      have HB1 : Hid (Below w.heap.size w w1) := bel2 HB.out hb1
      obtain ⟨c0, c1, cf⟩ := blk2a (carry HKB.out hb1)
      clear hb1
      go_wp2_with fail
      refine (CB.out _ HB1.out).mono ?_
      rintro e w2 ⟨rfl, hb2⟩
      have HB2 : Hid (Below w.heap.size w w2) := bel2 HB1.out hb2
      clear hb2
      go_wp2
      go_ret
      exact ⟨rfl, HB2.out⟩
    | true =>
      rw [rb] at CB
      by_cases hle : la.length ≤ lb.length
      · have HV : Hid (extR la sa lb sb = upS la lb la.length) := by unfold Hid; rw [HD.out, ra, rb, decide_eq_true hle]; rfl
        rw [HV.out]
        have t1 : decide ((lb.length : Int) < (la.length : Int)) = false := decide_eq_false (by omega)
        have t1n : decide (lb.length < la.length) = false := decide_eq_false (by omega)
        have CE2 : Hid _ := CE.out hle
        have hn3 : la.length ≤ c3 := by omega
        have hn3' : (la.length : Int) ≤ (c3 : Int) := by omega
        clear HD ra rb CE HV
        generalize upS la lb la.length = r at *
        go_enter Tryd.func7, Tryd.ntmps7
        go_wp2_with fail
        refine (CA.out _ HB.out).mono ?_
        rintro e w1 ⟨rfl, hb1⟩
        have HB1 : Hid (Below w.heap.size w w1) := bel2 HB.out hb1
        have KA1 : Hid _ := carry HKA.out hb1
        have KB1 : Hid _ := carry HKB.out hb1
        obtain ⟨q0, q1, qf⟩ := blk2a KB1.out
        clear hb1 HKA HKB HB CA
        go_wp2_with fail
        refine (CB.out _ HB1.out).mono ?_
        rintro e w2 ⟨rfl, hb2⟩
        have HB2 : Hid (Below w.heap.size w w2) := bel2 HB1.out hb2
        have KA3 : Hid _ := carry KA1.out hb2
        have KB3 : Hid _ := carry KB1.out hb2
        clear hb2 q0 q1 qf KA1 KB1 HB1 CB
        obtain ⟨q0, q1, qf⟩ := blk2a KA3.out
        obtain ⟨p0, p1, pf⟩ := blk2a KB3.out
        go_upto_region 3 with fail
        clear q0 q1 qf p0 p1 pf
        have KF : Hid (∀ y, Below w2.heap.size w2 y → y.cell? ⟨w.heap.size, 0, none⟩ = some (.slice a1 la.length c1) ∧ y.cell? ⟨w.heap.size + 1, 0, none⟩ = some (.slice a3 lb.length c3)) := fun y hy => ⟨block_cell (carry KA3.out hy) 0, block_cell (carry KB3.out hy) 0⟩
        have hb0 : Below w2.heap.size w2 w2.drew := (Below.refl _ _).drew
        refine wp_region_held_drew (S := (fun y => y.cell? ⟨w.heap.size, 0, none⟩ = some (.slice a1 la.length c1) ∧ y.cell? ⟨w.heap.size + 1, 0, none⟩ = some (.slice a3 lb.length c3))) (by kernel_rfl) (KF.out _ hb0) (fun hHeld => ?_)
        refine TK.take_at 0 (some 22) (v := ?va0) rfl rfl (by kernel_rfl) (by kernel_rfl) (by kernel_rfl) (fun _ _ _ h => h) (Or.inl ⟨rfl, ?ha0⟩) hHeld ?ra0
        case ha0 => intro wq hSw; (try dsimp only at hSw); go_simp; all_goals (with_reducible rfl)
        try simp only [Act.put, List.setIfInBounds_toArray, List.set_cons_zero, List.set_cons_succ]
        refine TK.take_at 1 (some 23) (v := ?va1) rfl rfl (by kernel_rfl) (by kernel_rfl) (by kernel_rfl) (fun _ _ _ h => h) (Or.inl ⟨rfl, ?ha1⟩) hHeld ?ra1
        case ha1 => intro wq hSw; (try dsimp only at hSw); go_simp; all_goals (with_reducible rfl)
        try simp only [Act.put, List.setIfInBounds_toArray, List.set_cons_zero, List.set_cons_succ]
        refine TK.take_at 2 (some 24) (v := ?va2) rfl rfl (by kernel_rfl) (by kernel_rfl) (by kernel_rfl) (fun _ _ _ h => h) (Or.inl ⟨rfl, ?ha2⟩) hHeld ?ra2
        case ha2 => intro wq hSw; (try dsimp only at hSw); go_simp; all_goals (with_reducible rfl)
        try simp only [Act.put, List.setIfInBounds_toArray, List.set_cons_zero, List.set_cons_succ]
        refine TK.take_at 3 (some 25) (v := ?va3) rfl rfl (by kernel_rfl) (by kernel_rfl) (by kernel_rfl) (fun _ _ _ h => h) (Or.inl ⟨rfl, ?ha3⟩) hHeld ?ra3
        case ha3 => intro wq hSw; (try dsimp only at hSw); go_simp; all_goals (with_reducible rfl)
        try simp only [Act.put, List.setIfInBounds_toArray, List.set_cons_zero, List.set_cons_succ]
        refine TK.take_at 4 (some 26) (v := ?va4) rfl rfl (by kernel_rfl) (by kernel_rfl) (by kernel_rfl) (fun _ _ _ h => h) (Or.inl ⟨rfl, ?ha4⟩) hHeld ?ra4
        case ha4 => intro wq hSw; (try dsimp only at hSw); go_simp; all_goals (with_reducible rfl)
        try simp only [Act.put, List.setIfInBounds_toArray, List.set_cons_zero, List.set_cons_succ]
        refine TK.take_at 5 (some 27) (v := ?va5) rfl rfl (by kernel_rfl) (by kernel_rfl) (by kernel_rfl) (fun _ _ _ h => h) (Or.inl ⟨rfl, ?ha5⟩) hHeld ?ra5
        case ha5 => intro wq hSw; (try dsimp only at hSw); go_simp; all_goals (with_reducible rfl)
        try simp only [Act.put, List.setIfInBounds_toArray, List.set_cons_zero, List.set_cons_succ]
        refine TK.take_at 6 (some 28) (v := ?va6) rfl rfl (by kernel_rfl) (by kernel_rfl) (by kernel_rfl) (fun _ _ _ h => h) (Or.inl ⟨rfl, ?ha6⟩) hHeld ?ra6
        case ha6 => intro wq hSw; (try dsimp only at hSw); go_simp; all_goals (with_reducible rfl)
        try simp only [Act.put, List.setIfInBounds_toArray, List.set_cons_zero, List.set_cons_succ]
        refine TK.take_at 7 (some 29) (v := ?va7) rfl rfl (by kernel_rfl) (by kernel_rfl) (by kernel_rfl) (fun _ _ _ h => h) (Or.inl ⟨rfl, ?ha7⟩) hHeld ?ra7
        case ha7 => intro wq hSw; (try dsimp only at hSw); go_simp; all_goals (with_reducible rfl)
        try simp only [Act.put, List.setIfInBounds_toArray, List.set_cons_zero, List.set_cons_succ]
        refine wpAnyH_ready (rs := [8]) (by kernel_rfl) (by simp) ?_
        refine AllReadyH.cons rfl (fun K hK => ?_) AllReadyH.nil
        go_simp
        (go_at_call 16; refine (CE2.out _ (bel2 HB2.out hb0)).mono ?_; rintro e x1 ⟨rfl, hq⟩; have hb0 := bel2 hb0 hq; clear hq)
        try (go_wp2_with fail)
        refine hK.out _ _ ?_ (fun hHeld => ?_)
        · exact KF.out _ hb0
        clear hK K
        try simp only [Act.put, List.setIfInBounds_toArray, List.set_cons_zero, List.set_cons_succ]
        refine TK.take_at 9 (some 4) (v := ?va9) rfl rfl (by kernel_rfl) (by kernel_rfl) (by kernel_rfl) (fun _ _ _ h => h) (Or.inl ⟨rfl, ?ha9⟩) hHeld ?ra9
        case ha9 => intro wq hSw; (try dsimp only at hSw); go_simp; all_goals (with_reducible rfl)
        try simp only [Act.put, List.setIfInBounds_toArray, List.set_cons_zero, List.set_cons_succ]
        refine wpAnyH_done (by kernel_rfl) ?_ _
        go_wp2_with fail
        go_ret
        exact ⟨rfl, bel2 HB2.out hb0⟩
      · have HV : Hid (extR la sa lb sb = false) := by unfold Hid; rw [HD.out, ra, rb, decide_eq_false hle]; rfl
        rw [HV.out]
        have t1 : decide ((lb.length : Int) < (la.length : Int)) = true := decide_eq_true (by omega)
        clear HD HV ra rb CE
        go_enter Tryd.func7, Tryd.ntmps7
        go_wp2_with fail
        refine (CA.out _ HB.out).mono ?_
        rintro e w1 ⟨rfl, hb1⟩
        have HB1 : Hid (Below w.heap.size w w1) := bel2 HB.out hb1
        have KA1 : Hid _ := carry HKA.out hb1
        have KB1 : Hid _ := carry HKB.out hb1
        obtain ⟨q0, q1, qf⟩ := blk2a KB1.out
        clear hb1 HKA HKB HB CA
        go_wp2_with fail
        refine (CB.out _ HB1.out).mono ?_
        rintro e w2 ⟨rfl, hb2⟩
        have HB2 : Hid (Below w.heap.size w w2) := bel2 HB1.out hb2
        obtain ⟨r0, r1, rf⟩ := blk2a (carry KA1.out hb2)
        obtain ⟨p0, p1, pf⟩ := blk2a (carry KB1.out hb2)
        clear hb2 q0 q1 qf KA1 KB1 HB1 CB
        go_wp2
        go_ret
        exact ⟨rfl, HB2.out⟩
end Go.Proofs.YtkpjdmmgdmbmnabDoor.I8
