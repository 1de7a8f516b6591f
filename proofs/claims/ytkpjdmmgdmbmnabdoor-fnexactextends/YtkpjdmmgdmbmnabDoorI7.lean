/-
  Does a log go on from another one: in the program.
-/
import Derived.Test.YtkpjdmmgdmbmnabDoorI6
import Derived.Test.YtkpjdmmgdmbmnabDoorA6
import Derived.BigQuiet
namespace Go.Proofs.YtkpjdmmgdmbmnabDoor.I7
open Go.RowKit
open Go.Proofs.YtkpjdmmgdmbmnabDoor.C0 Go.Proofs.YtkpjdmmgdmbmnabDoor.HB
open Go.Proofs.YtkpjdmmgdmbmnabDoor.A0 Go.Proofs.YtkpjdmmgdmbmnabDoor.A1 Go.Proofs.YtkpjdmmgdmbmnabDoor.A2 Go.Proofs.YtkpjdmmgdmbmnabDoor.A3 Go.Proofs.YtkpjdmmgdmbmnabDoor.A4 Go.Proofs.YtkpjdmmgdmbmnabDoor.I1 Go.Proofs.YtkpjdmmgdmbmnabDoor.I2 Go.Proofs.YtkpjdmmgdmbmnabDoor.I3 Go.Proofs.YtkpjdmmgdmbmnabDoor.I4 Go.Proofs.YtkpjdmmgdmbmnabDoor.I5 Go.Proofs.YtkpjdmmgdmbmnabDoor.I6
def upQ (l m : List Int) : Nat → Bool
  | 0 => true
  | k + 1 => upQ l m k && decide (iAt l k = iAt m k)
theorem upQ_no {l m : List Int} {k : Nat} (h : ¬ iAt l k = iAt m k) : ∀ n, k < n → upQ l m n = false
  | 0, hm => by omega
  | n + 1, hm => by
    unfold upQ
    by_cases e : k = n
    · subst e; rw [decide_eq_false h]; simp
    · rw [upQ_no h n (by omega)]; rfl
theorem upQ_one {l m : List Int} : ∀ {k i : Nat}, upQ l m k = true → i < k → iAt l i = iAt m i
  | 0, _, _, h => by omega
  | k + 1, i, h, hi => by
    unfold upQ at h
    obtain ⟨h1, h2⟩ := Bool.and_eq_true_iff.1 h
    by_cases e : i = k
    · subst e; exact of_decide_eq_true h2
    · exact upQ_one h1 (by omega)
theorem upQ_eq {l m : List Int} (hl : l.length = m.length) (h : upQ l m l.length = true) : l = m := by
  apply List.ext_getElem?
  intro i
  by_cases hi : i < l.length
  · rw [iAt_get hi, iAt_get (show i < m.length by omega), upQ_one h hi]
  · rw [List.getElem?_eq_none (by omega), List.getElem?_eq_none (by omega)]
set_option maxRecDepth 100000 in
set_option maxHeartbeats 1600000 in
theorem equal_impl (v u : Value) (l m : List Int) (w : World) (hv : IRow w v l) (hu : IRow w u m) :
    Calls Tryd.prog 27 #[v, u] w fun e w' => e = .returned (.bool (decide (l = m))) ∧ Below w.heap.size w w' := by
  obtain ⟨a, cap, rfl, hl, hc⟩ := hv
  obtain ⟨a2, cap2, rfl, hl2, hc2⟩ := hu
  unfold maxLen at hl hl2
  by_cases hlm : l.length = m.length
  · have HY : Hid (upQ l m l.length = true → decide (l = m) = true) := fun h => decide_eq_true (upQ_eq hlm h)
    have HN : Hid (∀ k, k < l.length → ¬ iAt l k = iAt m k → decide (l = m) = false) := fun k _ h => decide_eq_false (fun e => h (by rw [e]))
    rw [← hlm] at hl2 ⊢
    have HC2 : Hid (0 < l.length → ∃ b off, a2 = some ⟨b, off, none⟩ ∧ b < w.heap.size ∧ ∀ i s, m[i]? = some s → w.cell? ⟨b, off + i, none⟩ = some (.int .i64 s)) := fun h => hc2 (by omega)
    have HM : Hid (∀ k, k < l.length → m[k]? = some (iAt m k)) := fun k h => iAt_get (by omega)
    clear hc2 hlm hl2
    go_enter Tryd.func27, Tryd.ntmps27
    go_wp2
    go_loopw [13] (fun i x => ∃ k : Nat, k ≤ l.length ∧ i = .int .i64 (k : Nat) ∧ upQ l m k = true ∧ Below w.heap.size w x) (fun i _ => l.length - (intOf i).toNat)
    case atStart => exact ⟨0, Nat.zero_le _, rfl, rfl, Below.refl _ _⟩
    case round =>
      obtain ⟨k, hk, rfl, hup, hbel⟩ := hrel
      by_cases hlt : k < l.length
      · obtain ⟨b, off, rfl, hbb, hcc⟩ := hc (by omega)
        obtain ⟨b2, off2, rfl, hbb2, hcc2⟩ := HC2.out (by omega)
        have c0 := hcc k _ (iAt_get hlt)
        have c1 := hcc2 k _ (HM.out k hlt)
        rw [← hbel.cell (p := ⟨b, off + k, none⟩) hbb] at c0
        rw [← hbel.cell (p := ⟨b2, off2 + k, none⟩) hbb2] at c1
        have hlt' : (k : Int) < (l.length : Int) := by omega
        have HB : Hid (Below w.heap.size w wr) := hbel
        by_cases hq : iAt l k = iAt m k
        · have HU : Hid (upQ l m (k + 1) = true) := by unfold Hid upQ; rw [hup, decide_eq_true hq]; rfl
          have hqb : (iAt l k != iAt m k) = false := by simp [hq]
          rw [← hq] at c1 hqb
          generalize iAt l k = z at *
          clear hcc hcc2 hbel hc HC2 HM hup HY HN hq
          go_wp2
          go_quiet (fail)
          go_wp2
          go_roundw
          case rel => exact ⟨k + 1, by omega, by go_num, HU.out, A6.drewN_below HB.out _⟩
          case measure => simp [intOf]; omega
        · have HV : Hid (decide (l = m) = false) := HN.out k hlt hq
          have hqb : (iAt l k != iAt m k) = true := by simp [hq]
          generalize iAt l k = z at *
          generalize iAt m k = z2 at *
          clear hcc hcc2 hbel hc HC2 HM hup HY HN
          go_wp2
          go_quiet (fail)
          go_wp2
          go_ret
          exact ⟨by rw [HV.out]; rfl, A6.drewN_below HB.out _⟩
      · obtain rfl : k = l.length := by omega
        have HV : Hid (decide (l = m) = true) := HY.out hup
        clear hup hc HC2 HM HY HN
        go_wp2
        go_ret
        exact ⟨by rw [HV.out]; rfl, hbel⟩
  · have HV : Hid (decide (l = m) = false) := decide_eq_false (fun e => hlm (by rw [e]))
    have t1 : ((l.length : Int) != (m.length : Int)) = true := by simp; omega
    rw [HV.out]
    clear hc hc2
    go_enter Tryd.func27, Tryd.ntmps27
    go_wp2
    go_ret
    exact ⟨rfl, Below.refl _ _⟩
theorem text_dec (a b : ByteArray) : (a.toList == b.toList) = decide (a = b) := by
  by_cases h : a = b
  · subst h; simp
  · rw [decide_eq_false h]
    cases hb : (a.toList == b.toList) with
    | false => rfl
    | true => exact absurd (bytes_eq hb) h
set_option maxRecDepth 100000 in
set_option maxHeartbeats 3200000 in
theorem same_impl (x y : Ln) (vc vd : Value) (w : World) (hv : IRow w vc x.cards) (hu : IRow w vd y.cards) :
    Calls Tryd.prog 17 #[lnV x vc, lnV y vd] w fun e w' => e = .returned (.bool (sameB x y)) ∧ Below w.heap.size w w' := by
  have CE : Hid (∀ W, Below w.heap.size w W → Calls Tryd.prog 27 #[vc, vd] W fun e w' => e = .returned (.bool (decide (x.cards = y.cards))) ∧ Below W.heap.size W w') := fun W hW => equal_impl vc vd _ _ W (hv.below hW) (hu.below hW)
  obtain ⟨a, cap, rfl, _, _⟩ := hv
  obtain ⟨a2, cap2, rfl, _, _⟩ := hu
  obtain ⟨k1, n1, s1, c1⟩ := x
  obtain ⟨k2, n2, s2, c2⟩ := y
  unfold lnV sameB
  dsimp only at CE ⊢
  have HB : Hid (Below w.heap.size w ((w.alloc (.cells #[.int .i64 k1, .string n1, .string s1, .slice a c1.length cap] 39)).alloc (.cells #[.int .i64 k2, .string n2, .string s2, .slice a2 c2.length cap2] 39))) := (albel w _).alloc (by simp) _
  have hn := text_dec n1 n2
  have hs := text_dec s1 s2
  generalize decide (c1 = c2) = bc at *
  by_cases g1 : k1 = k2
  · have t1 : (k1 == k2) = true := beq_iff_eq.2 g1
    rw [decide_eq_true g1]
    clear g1
    cases g2 : decide (n1 = n2) with
    | true =>
      rw [g2] at hn
      cases g3 : decide (s1 = s2) with
      | true =>
        rw [g3] at hs
        rw [show (true && (true && (true && bc))) = bc by simp]
        go_enter Tryd.func17, Tryd.ntmps17
        go_wp2_with fail
        refine (CE.out _ HB.out).mono ?_
        rintro e w1 ⟨rfl, hb1⟩
        have HB1 : Hid (Below w.heap.size w w1) := bel2 HB.out hb1
        clear hb1
        go_wp2
        go_ret
        exact ⟨rfl, HB1.out⟩
      | false =>
        rw [g3] at hs
        rw [show (true && (true && (false && bc))) = false by simp]
        go_enter Tryd.func17, Tryd.ntmps17
        go_wp2
        go_ret
        exact ⟨rfl, HB.out⟩
    | false =>
      rw [g2] at hn
      rw [show (true && (false && (decide (s1 = s2) && bc))) = false by simp]
      go_enter Tryd.func17, Tryd.ntmps17
      go_wp2
      go_ret
      exact ⟨rfl, HB.out⟩
  · have t1 : (k1 == k2) = false := beq_eq_false_iff_ne.2 g1
    rw [decide_eq_false g1]
    rw [show (false && (decide (n1 = n2) && (decide (s1 = s2) && bc))) = false by simp]
    clear g1
    go_enter Tryd.func17, Tryd.ntmps17
    go_wp2
    go_ret
    exact ⟨rfl, HB.out⟩
set_option maxRecDepth 100000 in
set_option maxHeartbeats 3200000 in
theorem equalF_impl (va vb : Value) (la lb : List Ln) (w : World) (hva : LRow w va la) (hvb : LRow w vb lb) (hlen : la.length = lb.length) :
    Calls Tryd.prog 16 #[va, vb, .func (.func 17) #[] #[]] w fun e w' => e = .returned (.bool (upS la lb la.length)) ∧ Below w.heap.size w w' := by
  have hva' := hva
  have hvb' := hvb
  obtain ⟨a, cap, rfl, hl, _⟩ := hva
  obtain ⟨a2, cap2, rfl, hl2, _⟩ := hvb
  unfold maxLen at hl hl2
  rw [← hlen]
  rw [← hlen] at hvb' hl2
  have HLN : Hid (la.length = lb.length) := hlen
  have HLB : Hid (∀ k, k < la.length → ∃ b off, a2 = some ⟨b, off, none⟩ ∧ b < w.heap.size ∧ ∃ vc, IRow w vc (lAt lb k).cards ∧ w.cell? ⟨b, off + k * 4, none⟩ = some (.int .i64 (lAt lb k).kind) ∧ w.cell? ⟨b, off + k * 4 + 1, none⟩ = some (.string (lAt lb k).name) ∧ w.cell? ⟨b, off + k * 4 + 2, none⟩ = some (.string (lAt lb k).sum) ∧ w.cell? ⟨b, off + k * 4 + 3, none⟩ = some vc) := fun k hk => by
    rw [hlen] at hvb'
    exact lrow_at hvb' (by omega)
  clear hlen hvb'
  go_enter Tryd.func16, Tryd.ntmps16
  go_wp2_with fail
  go_loopw [17] (fun i x => ∃ k : Nat, k ≤ la.length ∧ i = .int .i64 (k : Nat) ∧ upS la lb k = true ∧ Below w.heap.size w x) (fun i _ => la.length - (intOf i).toNat)
  case atStart => exact ⟨0, Nat.zero_le _, rfl, rfl, Below.refl _ _⟩
  case round =>
    obtain ⟨k, hk, rfl, hup, hbel⟩ := hrel
    by_cases hlt : k < la.length
    · have hlt' : (k : Int) < (la.length : Int) := by omega
      obtain ⟨b, off, rfl, hb, vc, hi, x0, x1, x2, x3⟩ := lrow_at hva' hlt
      obtain ⟨b2, off2, rfl, hb2, vd, hj, y0, y1, y2, y3⟩ := HLB.out k hlt
      have HW : Hid (Below w.heap.size w wr) := hbel
      have HNO : Hid (sameB (lAt la k) (lAt lb k) = false → upS la lb la.length = false) := fun h => upS_no h _ hlt
      have HYES : Hid (sameB (lAt la k) (lAt lb k) = true → upS la lb (k + 1) = true) := fun h => upS_yes hup h
      have HS : Hid (∀ W, Below w.heap.size w W → Calls Tryd.prog 17 #[lnV (lAt la k) vc, lnV (lAt lb k) vd] W fun e w' => e = .returned (.bool (sameB (lAt la k) (lAt lb k))) ∧ Below W.heap.size W w') := fun W hW => same_impl _ _ vc vd W (hi.below hW) (hj.below hW)
      unfold lnV at HS
      generalize lAt la k = xk at *
      generalize lAt lb k = yk at *
      obtain ⟨av, cv, rfl, _, _⟩ := hi
      obtain ⟨ad, cd, rfl, _, _⟩ := hj
      rw [← hbel.cell (p := ⟨b, off + k * 4, none⟩) hb] at x0
      rw [← hbel.cell (p := ⟨b, off + k * 4 + 1, none⟩) hb] at x1
      rw [← hbel.cell (p := ⟨b, off + k * 4 + 2, none⟩) hb] at x2
      rw [← hbel.cell (p := ⟨b, off + k * 4 + 3, none⟩) hb] at x3
      have hbA := albel wr (.cells #[.int .i64 xk.kind, .string xk.name, .string xk.sum, .slice av xk.cards.length cv] 39)
      have hbel2 := bel2 hbel hbA
      rw [← hbel2.cell (p := ⟨b2, off2 + k * 4, none⟩) hb2] at y0
      rw [← hbel2.cell (p := ⟨b2, off2 + k * 4 + 1, none⟩) hb2] at y1
      rw [← hbel2.cell (p := ⟨b2, off2 + k * 4 + 2, none⟩) hb2] at y2
      rw [← hbel2.cell (p := ⟨b2, off2 + k * 4 + 3, none⟩) hb2] at y3
      have HB2 : Hid (Below w.heap.size w ((wr.alloc (.cells #[.int .i64 xk.kind, .string xk.name, .string xk.sum, .slice av xk.cards.length cv] 39)).alloc (.cells #[.int .i64 yk.kind, .string yk.name, .string yk.sum, .slice ad yk.cards.length cd] 39))) := hbel2.alloc hbel2.size _
      clear hbel hbel2 hbA hva' HLB hup
      cases hs : sameB xk yk with
      | false =>
        have HN : Hid (upS la lb la.length = false) := HNO.out hs
        rw [hs] at HS
        clear HNO HYES hs
        go_wp2_with fail
        refine (HS.out _ HB2.out).mono ?_
        rintro e w1 ⟨rfl, hb1⟩
        have HB3 : Hid (Below w.heap.size w w1) := bel2 HB2.out hb1
        clear hb1
        go_wp2
        go_ret
        exact ⟨by rw [HN.out]; rfl, HB3.out⟩
      | true =>
        have HN : Hid (upS la lb (k + 1) = true) := HYES.out hs
        rw [hs] at HS
        clear HNO HYES hs
        go_wp2_with fail
        refine (HS.out _ HB2.out).mono ?_
        rintro e w1 ⟨rfl, hb1⟩
        have HB3 : Hid (Below w.heap.size w w1) := bel2 HB2.out hb1
        clear hb1
        go_wp2
        go_roundw
        case rel => exact ⟨k + 1, by omega, by go_num, HN.out, HB3.out⟩
        case measure => simp [intOf]; omega
    · obtain rfl : k = la.length := by omega
      have HN : Hid (upS la lb la.length = true) := hup
      have HW : Hid (Below w.heap.size w wr) := hbel
      clear hup hbel hva' HLB
      go_wp2
      go_ret
      exact ⟨by rw [HN.out]; rfl, HW.out⟩
end Go.Proofs.YtkpjdmmgdmbmnabDoor.I7
