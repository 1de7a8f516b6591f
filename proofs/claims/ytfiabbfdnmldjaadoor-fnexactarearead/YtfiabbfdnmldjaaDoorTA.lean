/-
  Writing to a disk, as the specification and as the program have it.
-/
import Derived.Test.YtfiabbfdnmldjaaDoorT5
import Derived.Deep.AppendLies
namespace Go.Proofs.YtfiabbfdnmldjaaDoor.TA
open Go.RowKit
open Go.Proofs.YtfiabbfdnmldjaaDoor.C0 Go.Proofs.YtfiabbfdnmldjaaDoor.S0 Go.Proofs.YtfiabbfdnmldjaaDoor.S1 Go.Proofs.YtfiabbfdnmldjaaDoor.S2 Go.Proofs.YtfiabbfdnmldjaaDoor.S3 Go.Proofs.YtfiabbfdnmldjaaDoor.O1 Go.Proofs.YtfiabbfdnmldjaaDoor.T0 Go.Proofs.YtfiabbfdnmldjaaDoor.T1 Go.Proofs.YtfiabbfdnmldjaaDoor.T2 Go.Proofs.YtfiabbfdnmldjaaDoor.T3 Go.Proofs.YtfiabbfdnmldjaaDoor.T4 Go.Proofs.YtfiabbfdnmldjaaDoor.T5
open Go.Proofs.YtfiabbfdnmldjaaDoor.Dk (Out ill writeR rightB right_iff)
theorem cp_snoc (ps : List Pend) (i : Int) (d : ByteArray) : cp (ps ++ [(i, d)]) = cp ps ++ [.int .i64 i, .string d] := by simp [cp]
/-- One more is pending: told behind the local disk, the new item's block and the result's. -/
theorem fin_app {w w3 X w4 : World} {P g cap fc fc' : Nat} {fa fa' : Option Addr} {ss : List ByteArray} {ps : List Pend} {i : Int} {d : ByteArray} (B3 : Below w.heap.size w w3) (f3 : ODisk P w3 (.slice fa ss.length fc) (.slice fa' ps.length fc') ss ps) (al : Below w3.heap.size w3 X) (e4 : X.heap.size = w3.heap.size + 1 + 1)
    (hown : w4.ownsRow P 73 2 (.slice (some ⟨g, 0, none⟩) (ps.length + 1) cap) (ps.length + 1) (cp ps ++ [.int .i64 i, .string d])) (hg : X.grownBy w4 (Value.slice fa' ps.length fc').ownBlock) (RF : ∀ k, ((Value.slice fa ss.length fc).ownBlock = some k ∨ (Value.slice fa' ps.length fc').ownBlock = some k) → P ≤ k ∧ k < w3.heap.size)
    (hat : (Value.slice fa' ps.length fc').ownBlock = some g ∨ g = X.heap.size) (z3 : w.heap.size + 2 ≤ P) (p q r s u : Value) :
    OTold w ss (ps ++ [(i, d)]) ⟨#[]⟩ 0 (.returned (.agg #[.slice fa ss.length fc, .slice (some ⟨g, 0, none⟩) (ps.length + 1) cap, .string ⟨#[]⟩, .int .i64 0])) (set4 (w4.setCell ⟨w3.heap.size, 1, none⟩ u) (w.heap.size + 1) p q r s) := by
  have hl : (ps ++ [(i, d)]).length = ps.length + 1 := by simp
  have hP4 : OPends P w4 (.slice (some ⟨g, 0, none⟩) (ps.length + 1) cap) (ps ++ [(i, d)]) := by unfold OPends; rw [hl, cp_snoc]; exact hown
  have hS3 := f3.1.below al
  have hS4 : OStrs P w4 (.slice fa ss.length fc) ss := own_keep hS3 fun k hk => hg.block k (hS3.lt k hk).2 (fun e => own_apart f3.1 f3.2 k hk e.symm)
  have hB4 : Below w.heap.size w w4 := (B3.trans (al.mono B3.size)).grown hg (by have := B3.size; omega) (fun k hk => by have := RF k (.inr hk); omega)
  have hne : g ≠ w3.heap.size := by
    rcases hat with h | h
    · have := RF g (.inr h); omega
    · omega
  refine ⟨fa, fc, some ⟨g, 0, none⟩, cap, by rw [hl], ?_, ?_⟩
  · rw [hl]
    have h5 : ODisk P (w4.setCell ⟨w3.heap.size, 1, none⟩ u) (.slice fa ss.length fc) (.slice (some ⟨g, 0, none⟩) (ps.length + 1) cap) ss (ps ++ [(i, d)]) :=
      ⟨own_keep hS4 fun k hk => Below.heap_setCell _ _ _ _ (by have := RF k (.inl hk); show k ≠ w3.heap.size; omega), own_keep hP4 fun k hk => Below.heap_setCell _ _ _ _ (by simp [Value.ownBlock] at hk; subst hk; exact hne)⟩
    exact (set4_disk h5 (by omega) _ _ _ _).mono (by omega)
  · exact set4_below (hB4.setCell (p := ⟨w3.heap.size, 1, none⟩) (by show w.heap.size ≤ w3.heap.size; have := B3.size; omega) u) (by omega) _ _ _ _
set_option maxRecDepth 100000 in
set_option maxHeartbeats 1600000 in
theorem write_spec (vs vp : Value) (ss : List ByteArray) (ps : List Pend) (i : Int) (d : ByteArray) (w : World) (hs : Strs w vs ss) (hp : Pends w vp ps) (hz : ∀ s ∈ ss, s.size ≤ maxLen) (hzp : ∀ p ∈ ps, p.2.size ≤ maxLen) (hi1 : -9223372036854775808 ≤ i) (hi2 : i ≤ 9223372036854775807) (hd : d.size ≤ maxLen) :
    Calls Tryd.prog 20 #[.agg #[vs, vp], .int .i64 i, .string d] w fun e w' => OT w (writeR ss ps i d) e w' := by
  obtain ⟨sa, sc, rfl⟩ : ∃ a c, vs = .slice a ss.length c := hs.len
  obtain ⟨pa, pc, rfl⟩ : ∃ a c, vp = .slice a ps.length c := by obtain ⟨a, c, e, _⟩ := hp; exact ⟨a, c, e⟩
  obtain ⟨k0, k1, b0, z0⟩ := T5.k_box w (.cells #[.slice sa ss.length sc, .slice pa ps.length pc] 29) (.cells #[.slice none 0 0, .slice none 0 0, .string ⟨#[]⟩, .int .i64 0] 44)
  have b0' := b0
  have hmax : ss.length ≤ maxLen := by obtain ⟨_, _, _, h, _⟩ := hs; exact h
  unfold maxLen at hmax hd
  by_cases g0 : 8000 < d.size
  · have hO : writeR ss ps i d = ill 2 := by unfold writeR; rw [if_pos g0]
    rw [hO]
    clear hO
    have g0' : (8000 : Int) < (d.size : Int) := by omega
    go_enter Tryd.func20, Tryd.ntmps20
    go_wp2_with fail
    refine (ill_spec 2 _).mono ?_
    rintro e wz ⟨rfl, hbz⟩
    obtain ⟨r0, r1, r2, r3, rf, -⟩ := blk4 (carry k1 hbz)
    have HF : Hid (∀ p q r s, OT w (ill 2) (.returned (.agg #[.slice none 0 0, .slice none 0 0, .string ⟨#[]⟩, .int .i64 2])) (set4 wz (w.heap.size + 1) p q r s)) := fin_ill (bel2 b0' hbz)
    go_wp2
    exact bodyPost_ret (v := .agg #[.slice none 0 0, .slice none 0 0, .string ⟨#[]⟩, .int .i64 2]) (by simp [results, Tryd.results20, go_sem, r0, r1, r2, r3]) rfl (HF.out _ _ _ _)
  have g0' : ¬ (8000 : Int) < (d.size : Int) := by omega
  by_cases hR : rightB ss ps = false
  · have hO : writeR ss ps i d = ill 1 := by unfold writeR; rw [if_neg g0, if_pos (.inl hR)]
    rw [hO]
    clear hO
    go_enter Tryd.func20, Tryd.ntmps20
    go_wp2_with fail
    refine (right_spec _ _ ss ps _ (hs.below b0) (hp.below b0) hz hzp).mono ?_
    rintro e w1 ⟨rfl, hb1⟩
    have B1 := bel2 b0' hb1
    have k01 := carry k0 hb1
    have k11 := carry k1 hb1
    obtain ⟨q0, q1, -, -⟩ := blk2 k01
    clear k0 k1 hb1 b0
    rw [hR]
    go_wp2_with fail
    refine (ill_spec 1 _).mono ?_
    rintro e wz ⟨rfl, hbz⟩
    obtain ⟨r0, r1, r2, r3, rf, -⟩ := blk4 (carry k11 hbz)
    have HF : Hid (∀ p q r s, OT w (ill 1) (.returned (.agg #[.slice none 0 0, .slice none 0 0, .string ⟨#[]⟩, .int .i64 1])) (set4 wz (w.heap.size + 1) p q r s)) := fin_ill (bel2 B1 hbz)
    go_wp2
    exact bodyPost_ret (v := .agg #[.slice none 0 0, .slice none 0 0, .string ⟨#[]⟩, .int .i64 1]) (by simp [results, Tryd.results20, go_sem, r0, r1, r2, r3]) rfl (HF.out _ _ _ _)
  have hR1 : rightB ss ps = true := by simpa using hR
  obtain ⟨n1, n2, n3, -, -⟩ := (right_iff ss ps).1 hR1
  by_cases g1 : 64 < d.size
  · have hO : writeR ss ps i d = ill 1 := by unfold writeR; rw [if_neg g0, if_pos (.inr g1)]
    rw [hO]
    clear hO
    have g1' : (64 : Int) < (d.size : Int) := by omega
    go_enter Tryd.func20, Tryd.ntmps20
    go_wp2_with fail
    refine (right_spec _ _ ss ps _ (hs.below b0) (hp.below b0) hz hzp).mono ?_
    rintro e w1 ⟨rfl, hb1⟩
    have B1 := bel2 b0' hb1
    have k01 := carry k0 hb1
    have k11 := carry k1 hb1
    obtain ⟨q0, q1, -, -⟩ := blk2 k01
    clear k0 k1 hb1 b0
    rw [hR1]
    go_wp2_with fail
    refine (ill_spec 1 _).mono ?_
    rintro e wz ⟨rfl, hbz⟩
    obtain ⟨r0, r1, r2, r3, rf, -⟩ := blk4 (carry k11 hbz)
    have HF : Hid (∀ p q r s, OT w (ill 1) (.returned (.agg #[.slice none 0 0, .slice none 0 0, .string ⟨#[]⟩, .int .i64 1])) (set4 wz (w.heap.size + 1) p q r s)) := fin_ill (bel2 B1 hbz)
    go_wp2
    exact bodyPost_ret (v := .agg #[.slice none 0 0, .slice none 0 0, .string ⟨#[]⟩, .int .i64 1]) (by simp [results, Tryd.results20, go_sem, r0, r1, r2, r3]) rfl (HF.out _ _ _ _)
  have g1' : ¬ (64 : Int) < (d.size : Int) := by omega
  have hgo : ¬ (rightB ss ps = false ∨ 64 < d.size) := fun q => by rcases q with q | q; exact hR q; omega
  by_cases hin : 0 ≤ i ∧ i < ss.length
  case neg =>
    have hO : writeR ss ps i d = ill 8 := by unfold writeR; rw [if_neg g0, if_neg hgo, if_neg hin]
    rw [hO]
    clear hO hgo hR
    go_enter Tryd.func20, Tryd.ntmps20
    go_wp2_with fail
    refine (right_spec _ _ ss ps _ (hs.below b0) (hp.below b0) hz hzp).mono ?_
    rintro e w1 ⟨rfl, hb1⟩
    have B1 := bel2 b0' hb1
    have k01 := carry k0 hb1
    have k11 := carry k1 hb1
    obtain ⟨q0, q1, -, -⟩ := blk2 k01
    clear k0 k1 hb1 b0
    rw [hR1]
    go_wp2_with (first
      | (go_at_call 40; refine (is_no _ _ _ _ (by omega)).mono ?_; rintro e w9 ⟨rfl, rfl⟩)
      | (go_at_call 41; refine (ill_spec 8 _).mono ?_; rintro e wz ⟨rfl, hbz⟩; obtain ⟨r0, r1, r2, r3, rf, -⟩ := blk4 (carry k11 hbz); have HF : Hid (∀ p q r s, OT w (ill 8) (.returned (.agg #[.slice none 0 0, .slice none 0 0, .string ⟨#[]⟩, .int .i64 8])) (set4 wz (w.heap.size + 1) p q r s)) := fin_ill (bel2 B1 hbz)))
    exact bodyPost_ret (v := .agg #[.slice none 0 0, .slice none 0 0, .string ⟨#[]⟩, .int .i64 8]) (by simp [results, Tryd.results20, go_sem, r0, r1, r2, r3]) rfl (HF.out _ _ _ _)
  obtain ⟨i0, i1⟩ := hin
  by_cases g2 : 200 ≤ ps.length
  · have hO : writeR ss ps i d = ill 9 := by unfold writeR; rw [if_neg g0, if_neg hgo, if_pos ⟨i0, i1⟩, if_pos g2]
    rw [hO]
    clear hO hgo hR
    have g2' : (200 : Int) ≤ (ps.length : Int) := by omega
    have g2'' : (ps.length : Int) = 200 := by omega
    go_enter Tryd.func20, Tryd.ntmps20
    go_wp2_with fail
    refine (right_spec _ _ ss ps _ (hs.below b0) (hp.below b0) hz hzp).mono ?_
    rintro e w1 ⟨rfl, hb1⟩
    have B1 := bel2 b0' hb1
    have k01 := carry k0 hb1
    have k11 := carry k1 hb1
    obtain ⟨q0, q1, -, -⟩ := blk2 k01
    clear k0 k1 hb1 b0
    rw [hR1]
    clear g2''
    go_wp2_with (first
      | (go_at_call 40; refine (is_yes _ _ _ _ (by omega) (by omega)).mono ?_; rintro e w9 ⟨rfl, rfl⟩)
      | (go_at_call 41; refine (ill_spec 9 _).mono ?_; rintro e wz ⟨rfl, hbz⟩; obtain ⟨r0, r1, r2, r3, rf, -⟩ := blk4 (carry k11 hbz); have HF : Hid (∀ p q r s, OT w (ill 9) (.returned (.agg #[.slice none 0 0, .slice none 0 0, .string ⟨#[]⟩, .int .i64 9])) (set4 wz (w.heap.size + 1) p q r s)) := fin_ill (bel2 B1 hbz)))
    exact bodyPost_ret (v := .agg #[.slice none 0 0, .slice none 0 0, .string ⟨#[]⟩, .int .i64 9]) (by simp [results, Tryd.results20, go_sem, r0, r1, r2, r3]) rfl (HF.out _ _ _ _)
  have hO : writeR ss ps i d = ⟨ss, ps ++ [(i, d)], ⟨#[]⟩, 0⟩ := by unfold writeR; rw [if_neg g0, if_neg hgo, if_pos ⟨i0, i1⟩, if_neg g2]
  rw [hO]
  clear hO hgo hR
  have g2' : ¬ (200 : Int) ≤ (ps.length : Int) := by omega
  obtain ⟨j0, hj, hy0, hy1, hy2⟩ := info_parts info_pend
  go_enter Tryd.func20, Tryd.ntmps20
  go_wp2_with fail
  refine (right_spec _ _ ss ps _ (hs.below b0) (hp.below b0) hz hzp).mono ?_
  rintro e w1 ⟨rfl, hb1⟩
  have B1 := bel2 b0' hb1
  have k01 := carry k0 hb1
  have k11 := carry k1 hb1
  obtain ⟨q0, q1, -, -⟩ := blk2 k01
  clear k0 k1 hb1 b0
  rw [hR1]
  go_wp2_with (first
    | (go_at_call 40; refine (is_yes _ _ _ _ (by omega) (by omega)).mono ?_; rintro e w9 ⟨rfl, hw9⟩; have hw9' := hw9.symm; subst hw9'))
  refine (copy_spec _ _ ss ps _ (hs.below B1) (hp.below B1) (by omega) (by omega)).mono ?_
  rintro e w3 ⟨fa, fc, fa', fc', rfl, f3, hb3⟩
  have B3 := bel2 B1 hb3
  have k13 := carry k11 hb3
  have z3 : Hid (w.heap.size + 2 ≤ w1.heap.size) := lt_some k11
  have RF := f3.rows
  clear q0 q1 k01 k11 B1
  have zz : Hid (w1.heap.size ≤ w3.heap.size) := hb3.size
  have al3 := bel2 (albel w3 (.cells #[.slice fa ss.length fc, .slice fa' ps.length fc'] 29)) (albel _ (.cells #[.int .i64 i, .string d] 73))
  have e4 : ((w3.alloc (.cells #[.slice fa ss.length fc, .slice fa' ps.length fc'] 29)).alloc (.cells #[.int .i64 i, .string d] 73)).heap.size = w3.heap.size + 1 + 1 := by simp
  have hown := (f3.below al3).2
  have HK : Hid (((w3.alloc (.cells #[.slice fa ss.length fc, .slice fa' ps.length fc'] 29)).alloc (.cells #[.int .i64 i, .string d] 73)).heap[w3.heap.size]? = some (.cells #[.slice fa ss.length fc, .slice fa' ps.length fc'] 29)) := carryA (heap_alloc_new w3 _) _
  have HE : Hid (((w3.alloc (.cells #[.slice fa ss.length fc, .slice fa' ps.length fc'] 29)).alloc (.cells #[.int .i64 i, .string d] 73)).heap[w3.heap.size + 1]? = some (.cells #[.int .i64 i, .string d] 73)) := alloc_at (by simp)
  have k1l := lt_some k13
  clear hb3
  go_wp2_with (first
    | (at_builtin; refine wpList_append_lies _ rfl _ _ 27 rfl w1.heap.size 73 j0 (.agg #[.int .i64 0, .string ⟨#[]⟩]) 2 24 Tryd.underlying27 hj hy0 hy1 hy2 rfl (by decide) _ ps.length (cp ps) rfl hown ⟨w3.heap.size + 1, 0, none⟩ 1 1 [.int .i64 i, .string d] rfl rfl (World.news_of_block HE.out) (by intro u hu; simp at hu; rcases hu with rfl | rfl <;> rfl) (by decide) (by unfold maxLen; omega) (by omega) (by rw [e4]; have := zz.out; omega) _ rfl ?_; intro g cap w4 hown4 hg4 hat4 hlt4
       have kl := (hg4.block w3.heap.size (by rw [e4]; omega) (fun e => by have := RF w3.heap.size (.inr e.symm); omega)).trans HK.out
       have kr := (hg4.block (w.heap.size + 1) (by rw [e4]; omega) (fun e => by have := RF (w.heap.size + 1) (.inr e.symm); have := z3.out; omega)).trans (carry k13 al3)
       obtain ⟨t0, t1, tf, t9⟩ := blk2 kl
       obtain ⟨r0, r1, r2, r3, rf, r9⟩ := blk4 kr))
  have HF : Hid (∀ p q r s u, OTold w ss (ps ++ [(i, d)]) ⟨#[]⟩ 0 (.returned (.agg #[.slice fa ss.length fc, .slice (some ⟨g, 0, none⟩) (ps.length + 1) cap, .string ⟨#[]⟩, .int .i64 0])) (set4 (w4.setCell ⟨w3.heap.size, 1, none⟩ u) (w.heap.size + 1) p q r s)) := fin_app B3 f3 al3 e4 hown4 hg4 RF hat4 z3.out
  exact bodyPost_ret (v := .agg #[.slice fa ss.length fc, .slice (some ⟨g, 0, none⟩) (ps.length + 1) cap, .string ⟨#[]⟩, .int .i64 0]) (by simp [results, Tryd.results20, go_sem, r0, r1, r2, r3]) rfl (HF.out _ _ _ _ _)
set_option maxRecDepth 100000 in
set_option maxHeartbeats 1600000 in
theorem write_impl (vs vp : Value) (ss : List ByteArray) (ps : List Pend) (i : Int) (d : ByteArray) (w : World) (hs : Strs w vs ss) (hp : Pends w vp ps) (hz : ∀ s ∈ ss, s.size ≤ maxLen) (hzp : ∀ p ∈ ps, p.2.size ≤ maxLen) (hd : d.size ≤ maxLen) :
    Calls Tryd.prog 71 #[.agg #[vs, vp], .int .i64 i, .string d] w fun e w' => OT w (writeR ss ps i d) e w' := by
  obtain ⟨sa, sc, rfl⟩ : ∃ a c, vs = .slice a ss.length c := hs.len
  obtain ⟨pa, pc, rfl⟩ : ∃ a c, vp = .slice a ps.length c := by obtain ⟨a, c, e, _⟩ := hp; exact ⟨a, c, e⟩
  obtain ⟨k0, k1, b0, z0⟩ := T5.k_box w (.cells #[.slice sa ss.length sc, .slice pa ps.length pc] 29) (.cells #[.slice none 0 0, .slice none 0 0, .string ⟨#[]⟩, .int .i64 0] 44)
  have b0' := b0
  have hmax : ss.length ≤ maxLen := by obtain ⟨_, _, _, h, _⟩ := hs; exact h
  unfold maxLen at hmax hd
  by_cases g0 : 8000 < d.size
  · have hO : writeR ss ps i d = ill 2 := by unfold writeR; rw [if_pos g0]
    rw [hO]
    clear hO
    have g0' : (8000 : Int) < (d.size : Int) := by omega
    go_enter Tryd.func71, Tryd.ntmps71
    go_wp2
    exact bodyPost_ret (v := .agg #[.slice none 0 0, .slice none 0 0, .string ⟨#[]⟩, .int .i64 2]) (by simp [results, Tryd.results71, go_sem]) rfl (none_otold w _ 2 (T5.k_box w _ _).2.2.1)
  have g0' : ¬ (8000 : Int) < (d.size : Int) := by omega
  by_cases hR : rightB ss ps = false
  · have hO : writeR ss ps i d = ill 1 := by unfold writeR; rw [if_neg g0, if_pos (.inl hR)]
    rw [hO]
    clear hO
    go_enter Tryd.func71, Tryd.ntmps71
    go_wp2_with fail
    refine (right_impl _ _ ss ps _ (hs.below b0) (hp.below b0) hz hzp).mono ?_
    rintro e w1 ⟨rfl, hb1⟩
    have B1 := bel2 b0' hb1
    have k01 := carry k0 hb1
    have k11 := carry k1 hb1
    obtain ⟨q0, q1, -, -⟩ := blk2 k01
    clear k0 k1 hb1 b0
    rw [hR]
    obtain ⟨r0, r1, r2, r3, rf, -⟩ := blk4 k11
    have HF : Hid (∀ p q r s, OT w (ill 1) (.returned (.agg #[.slice none 0 0, .slice none 0 0, .string ⟨#[]⟩, .int .i64 1])) (set4 w1 (w.heap.size + 1) p q r s)) := fin_ill B1
    go_wp2
    exact bodyPost_ret (v := .agg #[.slice none 0 0, .slice none 0 0, .string ⟨#[]⟩, .int .i64 1]) (by simp [results, Tryd.results71, go_sem, r0, r1, r2, r3]) rfl (HF.out _ _ _ _)
  have hR1 : rightB ss ps = true := by simpa using hR
  obtain ⟨n1, n2, n3, -, -⟩ := (right_iff ss ps).1 hR1
  by_cases g1 : 64 < d.size
  · have hO : writeR ss ps i d = ill 1 := by unfold writeR; rw [if_neg g0, if_pos (.inr g1)]
    rw [hO]
    clear hO
    have g1' : (64 : Int) < (d.size : Int) := by omega
    go_enter Tryd.func71, Tryd.ntmps71
    go_wp2_with fail
    refine (right_impl _ _ ss ps _ (hs.below b0) (hp.below b0) hz hzp).mono ?_
    rintro e w1 ⟨rfl, hb1⟩
    have B1 := bel2 b0' hb1
    have k01 := carry k0 hb1
    have k11 := carry k1 hb1
    obtain ⟨q0, q1, -, -⟩ := blk2 k01
    clear k0 k1 hb1 b0
    rw [hR1]
    obtain ⟨r0, r1, r2, r3, rf, -⟩ := blk4 k11
    have HF : Hid (∀ p q r s, OT w (ill 1) (.returned (.agg #[.slice none 0 0, .slice none 0 0, .string ⟨#[]⟩, .int .i64 1])) (set4 w1 (w.heap.size + 1) p q r s)) := fin_ill B1
    go_wp2
    exact bodyPost_ret (v := .agg #[.slice none 0 0, .slice none 0 0, .string ⟨#[]⟩, .int .i64 1]) (by simp [results, Tryd.results71, go_sem, r0, r1, r2, r3]) rfl (HF.out _ _ _ _)
  have g1' : ¬ (64 : Int) < (d.size : Int) := by omega
  have hgo : ¬ (rightB ss ps = false ∨ 64 < d.size) := fun q => by rcases q with q | q; exact hR q; omega
  by_cases hin : 0 ≤ i ∧ i < ss.length
  case neg =>
    have hO : writeR ss ps i d = ill 8 := by unfold writeR; rw [if_neg g0, if_neg hgo, if_neg hin]
    rw [hO]
    clear hO hgo hR
    go_enter Tryd.func71, Tryd.ntmps71
    go_wp2_with fail
    refine (right_impl _ _ ss ps _ (hs.below b0) (hp.below b0) hz hzp).mono ?_
    rintro e w1 ⟨rfl, hb1⟩
    have B1 := bel2 b0' hb1
    have k01 := carry k0 hb1
    have k11 := carry k1 hb1
    obtain ⟨q0, q1, -, -⟩ := blk2 k01
    clear k0 k1 hb1 b0
    rw [hR1]
    go_wp2_with fail
    refine (has_no _ _ _ _ _ _ hin).mono ?_
    rintro e w2 ⟨rfl, hb2⟩
    obtain ⟨r0, r1, r2, r3, rf, -⟩ := blk4 (carry k11 hb2)
    have HF : Hid (∀ p q r s, OT w (ill 8) (.returned (.agg #[.slice none 0 0, .slice none 0 0, .string ⟨#[]⟩, .int .i64 8])) (set4 w2 (w.heap.size + 1) p q r s)) := fin_ill (bel2 B1 hb2)
    go_wp2
    exact bodyPost_ret (v := .agg #[.slice none 0 0, .slice none 0 0, .string ⟨#[]⟩, .int .i64 8]) (by simp [results, Tryd.results71, go_sem, r0, r1, r2, r3]) rfl (HF.out _ _ _ _)
  obtain ⟨i0, i1⟩ := hin
  by_cases g2 : 200 ≤ ps.length
  · have hO : writeR ss ps i d = ill 9 := by unfold writeR; rw [if_neg g0, if_neg hgo, if_pos ⟨i0, i1⟩, if_pos g2]
    rw [hO]
    clear hO hgo hR
    have g2' : (200 : Int) ≤ (ps.length : Int) := by omega
    have g2'' : (ps.length : Int) = 200 := by omega
    go_enter Tryd.func71, Tryd.ntmps71
    go_wp2_with fail
    refine (right_impl _ _ ss ps _ (hs.below b0) (hp.below b0) hz hzp).mono ?_
    rintro e w1 ⟨rfl, hb1⟩
    have B1 := bel2 b0' hb1
    have k01 := carry k0 hb1
    have k11 := carry k1 hb1
    obtain ⟨q0, q1, -, -⟩ := blk2 k01
    clear k0 k1 hb1 b0
    rw [hR1]
    have ge : ((ps.length : Int) == 200) = true := by simpa using g2''
    clear g2'' g2'
    go_wp2_with fail
    refine (has_yes _ _ _ _ _ _ i0 i1).mono ?_
    rintro e w2 ⟨rfl, hb2⟩
    obtain ⟨u0, u1, -, -⟩ := blk2 (carry k01 hb2)
    obtain ⟨r0, r1, r2, r3, rf, -⟩ := blk4 (carry k11 hb2)
    have HF : Hid (∀ p q r s, OT w (ill 9) (.returned (.agg #[.slice none 0 0, .slice none 0 0, .string ⟨#[]⟩, .int .i64 9])) (set4 w2 (w.heap.size + 1) p q r s)) := fin_ill (bel2 B1 hb2)
    go_wp2
    exact bodyPost_ret (v := .agg #[.slice none 0 0, .slice none 0 0, .string ⟨#[]⟩, .int .i64 9]) (by simp [results, Tryd.results71, go_sem, r0, r1, r2, r3]) rfl (HF.out _ _ _ _)
  have hO : writeR ss ps i d = ⟨ss, ps ++ [(i, d)], ⟨#[]⟩, 0⟩ := by unfold writeR; rw [if_neg g0, if_neg hgo, if_pos ⟨i0, i1⟩, if_neg g2]
  rw [hO]
  clear hO hgo hR
  have g2' : ¬ (200 : Int) ≤ (ps.length : Int) := by omega
  obtain ⟨j0, hj, hy0, hy1, hy2⟩ := info_parts info_pend
  go_enter Tryd.func71, Tryd.ntmps71
  go_wp2_with fail
  refine (right_impl _ _ ss ps _ (hs.below b0) (hp.below b0) hz hzp).mono ?_
  rintro e w1 ⟨rfl, hb1⟩
  have B1 := bel2 b0' hb1
  have k01 := carry k0 hb1
  have k11 := carry k1 hb1
  obtain ⟨q0, q1, -, -⟩ := blk2 k01
  clear k0 k1 hb1 b0
  rw [hR1]
  have ge : ((ps.length : Int) == 200) = false := by
    have : (ps.length : Int) ≠ 200 := by omega
    simpa using this
  clear g2'
  go_wp2_with fail
  refine (has_yes _ _ _ _ _ _ i0 i1).mono ?_
  rintro e w2 ⟨rfl, hb2⟩
  have B2 := bel2 B1 hb2
  have k12 := carry k11 hb2
  obtain ⟨u0, u1, -, -⟩ := blk2 (carry k01 hb2)
  clear q0 q1 k01 k11 B1
  go_wp2_with fail
  refine (copied_any _ _ ss ps _ (hs.below B2) (hp.below B2) (by omega) (by omega)).mono ?_
  rintro e w3 ⟨fa, fc, fa', fc', rfl, f3, hb3⟩
  have B3 := bel2 B2 hb3
  have k13 := carry k12 hb3
  have z3 : Hid (w.heap.size + 2 ≤ w2.heap.size) := lt_some k12
  have RF := f3.rows
  clear u0 u1 k12 B2 hb2
  have zz : Hid (w2.heap.size ≤ w3.heap.size) := hb3.size
  have al3 := bel2 (albel w3 (.cells #[.slice fa ss.length fc, .slice fa' ps.length fc'] 29)) (albel _ (.cells #[.int .i64 i, .string d] 73))
  have e4 : ((w3.alloc (.cells #[.slice fa ss.length fc, .slice fa' ps.length fc'] 29)).alloc (.cells #[.int .i64 i, .string d] 73)).heap.size = w3.heap.size + 1 + 1 := by simp
  have hown := (f3.below al3).2
  have HK : Hid (((w3.alloc (.cells #[.slice fa ss.length fc, .slice fa' ps.length fc'] 29)).alloc (.cells #[.int .i64 i, .string d] 73)).heap[w3.heap.size]? = some (.cells #[.slice fa ss.length fc, .slice fa' ps.length fc'] 29)) := carryA (heap_alloc_new w3 _) _
  have HE : Hid (((w3.alloc (.cells #[.slice fa ss.length fc, .slice fa' ps.length fc'] 29)).alloc (.cells #[.int .i64 i, .string d] 73)).heap[w3.heap.size + 1]? = some (.cells #[.int .i64 i, .string d] 73)) := alloc_at (by simp)
  have k1l := lt_some k13
  clear hb3
  go_wp2_with (first
    | (at_builtin; refine wpList_append_lies _ rfl _ _ 27 rfl w2.heap.size 73 j0 (.agg #[.int .i64 0, .string ⟨#[]⟩]) 2 24 Tryd.underlying27 hj hy0 hy1 hy2 rfl (by decide) _ ps.length (cp ps) rfl hown ⟨w3.heap.size + 1, 0, none⟩ 1 1 [.int .i64 i, .string d] rfl rfl (World.news_of_block HE.out) (by intro u hu; simp at hu; rcases hu with rfl | rfl <;> rfl) (by decide) (by unfold maxLen; omega) (by omega) (by rw [e4]; have := zz.out; omega) _ rfl ?_; intro g cap w4 hown4 hg4 hat4 hlt4
       have kl := (hg4.block w3.heap.size (by rw [e4]; omega) (fun e => by have := RF w3.heap.size (.inr e.symm); omega)).trans HK.out
       have kr := (hg4.block (w.heap.size + 1) (by rw [e4]; omega) (fun e => by have := RF (w.heap.size + 1) (.inr e.symm); have := z3.out; omega)).trans (carry k13 al3)
       obtain ⟨t0, t1, tf, t9⟩ := blk2 kl
       obtain ⟨r0, r1, r2, r3, rf, r9⟩ := blk4 kr))
  have HF : Hid (∀ p q r s u, OTold w ss (ps ++ [(i, d)]) ⟨#[]⟩ 0 (.returned (.agg #[.slice fa ss.length fc, .slice (some ⟨g, 0, none⟩) (ps.length + 1) cap, .string ⟨#[]⟩, .int .i64 0])) (set4 (w4.setCell ⟨w3.heap.size, 1, none⟩ u) (w.heap.size + 1) p q r s)) := fin_app B3 f3 al3 e4 hown4 hg4 RF hat4 z3.out
  exact bodyPost_ret (v := .agg #[.slice fa ss.length fc, .slice (some ⟨g, 0, none⟩) (ps.length + 1) cap, .string ⟨#[]⟩, .int .i64 0]) (by simp [results, Tryd.results71, go_sem, r0, r1, r2, r3]) rfl (HF.out _ _ _ _ _)
end Go.Proofs.YtfiabbfdnmldjaaDoor.TA
