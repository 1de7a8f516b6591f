/-
  The program's reading of a sector.
-/
import Derived.Test.YtfiabbfdnmldjaaDoorT8
import Derived.Test.YtfiabbfdnmldjaaDoorT5
namespace Go.Proofs.YtfiabbfdnmldjaaDoor.T9
open Go.RowKit
open Go.Proofs.YtfiabbfdnmldjaaDoor.C0 Go.Proofs.YtfiabbfdnmldjaaDoor.S0 Go.Proofs.YtfiabbfdnmldjaaDoor.S1 Go.Proofs.YtfiabbfdnmldjaaDoor.S2 Go.Proofs.YtfiabbfdnmldjaaDoor.S3 Go.Proofs.YtfiabbfdnmldjaaDoor.O1 Go.Proofs.YtfiabbfdnmldjaaDoor.T0 Go.Proofs.YtfiabbfdnmldjaaDoor.T1 Go.Proofs.YtfiabbfdnmldjaaDoor.T2 Go.Proofs.YtfiabbfdnmldjaaDoor.T3 Go.Proofs.YtfiabbfdnmldjaaDoor.T4 Go.Proofs.YtfiabbfdnmldjaaDoor.T5 Go.Proofs.YtfiabbfdnmldjaaDoor.T6 Go.Proofs.YtfiabbfdnmldjaaDoor.T7 Go.Proofs.YtfiabbfdnmldjaaDoor.T8
open Go.Proofs.YtfiabbfdnmldjaaDoor.Dk (Out ill readR readOf rightB right_iff)
set_option maxRecDepth 100000 in
set_option maxHeartbeats 1600000 in
theorem read_impl (vs vp : Value) (ss : List ByteArray) (ps : List Pend) (i : Int) (w : World) (hs : Strs w vs ss) (hp : Pends w vp ps) (hz : ∀ s ∈ ss, s.size ≤ maxLen) (hzp : ∀ p ∈ ps, p.2.size ≤ maxLen) :
    Calls Tryd.prog 60 #[.agg #[vs, vp], .int .i64 i] w fun e w' => OT w (readR ss ps i) e w' := by
  obtain ⟨sa, sc, rfl⟩ : ∃ a c, vs = .slice a ss.length c := hs.len
  obtain ⟨pa, pc, rfl⟩ : ∃ a c, vp = .slice a ps.length c := by obtain ⟨a, c, e, _⟩ := hp; exact ⟨a, c, e⟩
  obtain ⟨k0, k1, b0, z0⟩ := T5.k_box w (.cells #[.slice sa ss.length sc, .slice pa ps.length pc] 29) (.cells #[.slice none 0 0, .slice none 0 0, .string ⟨#[]⟩, .int .i64 0] 44)
  by_cases hR : rightB ss ps = false
  · have hO : readR ss ps i = ill 1 := by unfold readR; rw [if_pos hR]
    rw [hO]
    clear hO
    go_enter Tryd.func60, Tryd.ntmps60
    go_wp2_with fail
    refine (right_impl _ _ ss ps _ (hs.below b0) (hp.below b0) hz hzp).mono ?_
    rintro e w1 ⟨rfl, hb1⟩
    have B1 := b0.trans (hb1.mono b0.size)
    obtain ⟨q0, q1, -, -⟩ := blk2 (carry k0 hb1)
    obtain ⟨r0, r1, r2, r3, rf, -⟩ := blk4 (carry k1 hb1)
    clear k0 k1 hb1 z0 b0
    rw [hR]
    have HF : Hid (∀ p q r s, OT w (ill 1) (.returned (.agg #[.slice none 0 0, .slice none 0 0, .string ⟨#[]⟩, .int .i64 1])) (set4 w1 (w.heap.size + 1) p q r s)) := fin_ill B1
    go_wp2
    exact bodyPost_ret (v := .agg #[.slice none 0 0, .slice none 0 0, .string ⟨#[]⟩, .int .i64 1]) (by simp [results, Tryd.results60, go_sem, r0, r1, r2, r3]) rfl (HF.out _ _ _ _)
  have hR1 : rightB ss ps = true := by simpa using hR
  obtain ⟨n1, n2, n3, -, -⟩ := (right_iff ss ps).1 hR1
  by_cases hin : 0 ≤ i ∧ i < ss.length
  case neg =>
    have hO : readR ss ps i = ill 8 := by unfold readR; rw [if_neg hR, if_neg hin]
    rw [hO]
    clear hO
    go_enter Tryd.func60, Tryd.ntmps60
    go_wp2_with fail
    refine (right_impl _ _ ss ps _ (hs.below b0) (hp.below b0) hz hzp).mono ?_
    rintro e w1 ⟨rfl, hb1⟩
    have B1 := b0.trans (hb1.mono b0.size)
    have k01 := carry k0 hb1
    have k11 := carry k1 hb1
    obtain ⟨q0, q1, -, -⟩ := blk2 k01
    clear k0 k1 hb1 z0 b0
    rw [hR1]
    go_wp2_with fail
    refine (has_no _ _ _ _ _ _ hin).mono ?_
    rintro e w2 ⟨rfl, hb2⟩
    obtain ⟨r0, r1, r2, r3, rf, -⟩ := blk4 (carry k11 hb2)
    have HF : Hid (∀ p q r s, OT w (ill 8) (.returned (.agg #[.slice none 0 0, .slice none 0 0, .string ⟨#[]⟩, .int .i64 8])) (set4 w2 (w.heap.size + 1) p q r s)) := fin_ill (B1.trans (hb2.mono B1.size))
    go_wp2
    exact bodyPost_ret (v := .agg #[.slice none 0 0, .slice none 0 0, .string ⟨#[]⟩, .int .i64 8]) (by simp [results, Tryd.results60, go_sem, r0, r1, r2, r3]) rfl (HF.out _ _ _ _)
  obtain ⟨i0, i1⟩ := hin
  obtain ⟨j, rfl⟩ : ∃ j : Nat, i = j := ⟨i.toNat, by omega⟩
  have hj : j < ss.length := by omega
  obtain ⟨t, ht⟩ : ∃ t, ss[j]? = some t := ⟨_, List.getElem?_eq_getElem hj⟩
  have hO : readR ss ps j = ⟨ss, ps, readOf t ps j, 0⟩ := by
    unfold readR; rw [if_neg hR, if_pos ⟨i0, i1⟩]
    simp [List.getD_eq_getElem?_getD, ht]
  rw [hO]
  clear hO hR
  have HT : Hid (ss[j]? = some t) := ht
  clear ht
  go_enter Tryd.func60, Tryd.ntmps60
  go_wp2_with fail
  refine (right_impl _ _ ss ps _ (hs.below b0) (hp.below b0) hz hzp).mono ?_
  rintro e w1 ⟨rfl, hb1⟩
  have B1 := b0.trans (hb1.mono b0.size)
  have k01 := carry k0 hb1
  have k11 := carry k1 hb1
  obtain ⟨q0, q1, -, -⟩ := blk2 k01
  clear k0 k1 hb1 b0
  rw [hR1]
  go_wp2_with fail
  refine (has_yes _ _ _ _ _ _ i0 i1).mono ?_
  rintro e w2 ⟨rfl, hb2⟩
  have B2 := bel2 B1 hb2
  have k02 := carry k01 hb2
  have k12 := carry k11 hb2
  clear q0 q1 k01 k11 hb2 B1
  obtain ⟨q0, q1, -, -⟩ := blk2 k02
  go_wp2_with fail
  refine (atWork_any _ _ ss ps _ (hs.below B2) (hp.below B2) n2 n3).mono ?_
  rintro e w3 ⟨a, c, m, n, rfl, o3, m3, hn, hm, hb3⟩
  have B3 := bel2 B2 hb3
  have k03 := carry k02 hb3
  have k13 := carry k12 hb3
  clear q0 q1 k02 k12 hb3 B2
  obtain ⟨q0, q1, -, -⟩ := blk2 k03
  go_wp2_with fail
  refine (copied_any _ _ ss ps _ (hs.below B3) (hp.below B3) (by omega) (by omega)).mono ?_
  rintro e w4 ⟨f, d, f', d', rfl, g4, hb4⟩
  have B4 := bel2 B3 hb4
  have k14 := carry k13 hb4
  have m4 := m3.below hb4
  have o4 := o3.below hb4
  have z4 : Hid (w.heap.size + 2 ≤ w3.heap.size) := lt_some k13
  clear q0 q1 k03 k13 hb4 B3 m3 o3
  go_wp2_with fail
  refine (read_any a c m n ss ps j t _ o4.strs m4 n3 HT.out n2).mono ?_
  rintro e w5 ⟨rfl, hb5⟩
  obtain ⟨r0, r1, r2, r3, rf, -⟩ := blk4 (carry k14 hb5)
  have HF : Hid (∀ p q r s, OTold w ss ps (readOf t ps j) 0 (.returned (.agg #[.slice f ss.length d, .slice f' ps.length d', .string (readOf t ps j), .int .i64 0])) (set4 w5 (w.heap.size + 1) p q r s)) := fin_out (bel2 B4 hb5) (g4.below hb5) z4.out
  go_wp2
  exact bodyPost_ret (v := .agg #[.slice f ss.length d, .slice f' ps.length d', .string (readOf t ps j), .int .i64 0]) (by simp [results, Tryd.results60, go_sem, r0, r1, r2, r3]) rfl (HF.out _ _ _ _)
end Go.Proofs.YtfiabbfdnmldjaaDoor.T9
