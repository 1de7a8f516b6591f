/-
  TA TB: parts of the proof, one behind the other.
-/
import Derived.Test.YtfiabbfdnmldjaaGreatDoorPD
import Derived.Deep.AppendLies
import Derived.Test.YtfiabbfdnmldjaaGreatDoorPE
/-
  Writing to a disk, as the specification and as the program have it.
-/
namespace Go.Proofs.YtfiabbfdnmldjaaGreatDoor.TA
open Go.RowKit
open Go.Proofs.YtfiabbfdnmldjaaGreatDoor.C0 Go.Proofs.YtfiabbfdnmldjaaGreatDoor.S0 Go.Proofs.YtfiabbfdnmldjaaGreatDoor.S1 Go.Proofs.YtfiabbfdnmldjaaGreatDoor.S2 Go.Proofs.YtfiabbfdnmldjaaGreatDoor.S3 Go.Proofs.YtfiabbfdnmldjaaGreatDoor.O1 Go.Proofs.YtfiabbfdnmldjaaGreatDoor.T0 Go.Proofs.YtfiabbfdnmldjaaGreatDoor.T1 Go.Proofs.YtfiabbfdnmldjaaGreatDoor.T2 Go.Proofs.YtfiabbfdnmldjaaGreatDoor.T3 Go.Proofs.YtfiabbfdnmldjaaGreatDoor.T4 Go.Proofs.YtfiabbfdnmldjaaGreatDoor.T5
open Go.Proofs.YtfiabbfdnmldjaaGreatDoor.Dk (Out ill writeR rightB right_iff)
theorem cp_snoc (ps : List Pend) (i : Int) (d : ByteArray) : cp (ps ++ [(i, d)]) = cp ps ++ [.int .i64 i, .string d] := by simp [cp]
/-- One more is pending: told behind the local disk, the new item's block and the result's. -/
theorem fin_app {w w3 X w4 : World} {P g cap fc fc' : Nat} {fa fa' : Option Addr} {ss : List ByteArray} {ps : List Pend} {i : Int} {d : ByteArray} (B3 : Below w.heap.size w w3) (f3 : ODisk P w3 (.slice fa ss.length fc) (.slice fa' ps.length fc') ss ps) (al : Below w3.heap.size w3 X) (e4 : X.heap.size = w3.heap.size + 1 + 1)
    (hown : w4.ownsRow P 82 2 (.slice (some ⟨g, 0, none⟩) (ps.length + 1) cap) (ps.length + 1) (cp ps ++ [.int .i64 i, .string d])) (hg : X.grownBy w4 (Value.slice fa' ps.length fc').ownBlock) (RF : ∀ k, ((Value.slice fa ss.length fc).ownBlock = some k ∨ (Value.slice fa' ps.length fc').ownBlock = some k) → P ≤ k ∧ k < w3.heap.size)
    (hat : (Value.slice fa' ps.length fc').ownBlock = some g ∨ g = X.heap.size) (z3 : w.heap.size + 2 ≤ P) (p q r s u : Value) :
    OTold w ss (ps ++ [(i, d)]) ⟨#[]⟩ 0 (.returned (.agg #[.slice fa ss.length fc, .slice (some ⟨g, 0, none⟩) (ps.length + 1) cap, .string ⟨#[]⟩, .int .i64 0])) (set4 (w4.setCell ⟨w3.heap.size, 1, none⟩ u) (w.heap.size + 1) p q r s) := by
  have hl : (ps ++ [(i, d)]).length = ps.length + 1 := by simp
  have hP4 : OPends P w4 (.slice (some ⟨g, 0, none⟩) (ps.length + 1) cap) (ps ++ [(i, d)]) := by unfold OPends; rw [hl, cp_snoc]; exact hown
  have hS3 := f3.1.below al
  have hS4 : OStrs P w4 (.slice fa ss.length fc) ss := own_keep hS3 fun k hk => hg.block k (hS3.lt k hk).2 (fun e => own_apart f3.1 f3.2 k hk e.symm)
  have hB4 : Below w.heap.size w w4 := (B3.trans (al.mono B3.size)).grown hg (by have := B3.size; omega) (fun k hk => by have := RF k (.inr hk); omega)
  have hne : g ≠ w3.heap.size := by
    rcases hat with h | h
    · have := RF g (.inr h); omega
    · omega
  refine ⟨fa, fc, some ⟨g, 0, none⟩, cap, by rw [hl], ?_, ?_⟩
  · rw [hl]
    have h5 : ODisk P (w4.setCell ⟨w3.heap.size, 1, none⟩ u) (.slice fa ss.length fc) (.slice (some ⟨g, 0, none⟩) (ps.length + 1) cap) ss (ps ++ [(i, d)]) :=
      ⟨own_keep hS4 fun k hk => Below.heap_setCell _ _ _ _ (by have := RF k (.inl hk); show k ≠ w3.heap.size; omega), own_keep hP4 fun k hk => Below.heap_setCell _ _ _ _ (by simp [Value.ownBlock] at hk; subst hk; exact hne)⟩
    exact (set4_disk h5 (by omega) _ _ _ _).mono (by omega)
  · exact set4_below (hB4.setCell (p := ⟨w3.heap.size, 1, none⟩) (by show w.heap.size ≤ w3.heap.size; have := B3.size; omega) u) (by omega) _ _ _ _
set_option maxRecDepth 100000 in
set_option maxHeartbeats 1600000 in
theorem write_spec (vs vp : Value) (ss : List ByteArray) (ps : List Pend) (i : Int) (d : ByteArray) (w : World) (hs : Strs w vs ss) (hp : Pends w vp ps) (hz : ∀ s ∈ ss, s.size ≤ maxLen) (hzp : ∀ p ∈ ps, p.2.size ≤ maxLen) (hi1 : -9223372036854775808 ≤ i) (hi2 : i ≤ 9223372036854775807) (hd : d.size ≤ maxLen) :
    Calls Tryz.prog 47 #[.agg #[vs, vp], .int .i64 i, .string d] w fun e w' => OT w (writeR ss ps i d) e w' := by
  obtain ⟨sa, sc, rfl⟩ : ∃ a c, vs = .slice a ss.length c := hs.len
  obtain ⟨pa, pc, rfl⟩ : ∃ a c, vp = .slice a ps.length c := by obtain ⟨a, c, e, _⟩ := hp; exact ⟨a, c, e⟩
  obtain ⟨k0, k1, b0, z0⟩ := T5.k_box w (.cells #[.slice sa ss.length sc, .slice pa ps.length pc] 26) (.cells #[.slice none 0 0, .slice none 0 0, .string ⟨#[]⟩, .int .i64 0] 72)
  have b0' := b0
  have hmax : ss.length ≤ maxLen := by obtain ⟨_, _, _, h, _⟩ := hs; exact h
  unfold maxLen at hmax hd
  by_cases g0 : 8000 < d.size
  · have hO : writeR ss ps i d = ill 2 := by unfold writeR; rw [if_pos g0]
    rw [hO]
    clear hO
    have g0' : (8000 : Int) < (d.size : Int) := by omega
    go_enter Tryz.func47, Tryz.ntmps47
    go_wp2_with fail
    refine (ill_spec 2 _).mono ?_
    rintro e wz ⟨rfl, hbz⟩
    obtain ⟨r0, r1, r2, r3, rf, -⟩ := blk4 (carry k1 hbz)
    have HF : Hid (∀ p q r s, OT w (ill 2) (.returned (.agg #[.slice none 0 0, .slice none 0 0, .string ⟨#[]⟩, .int .i64 2])) (set4 wz (w.heap.size + 1) p q r s)) := fin_ill (bel2 b0' hbz)
    go_wp2
    exact bodyPost_ret (v := .agg #[.slice none 0 0, .slice none 0 0, .string ⟨#[]⟩, .int .i64 2]) (by simp [results, Tryz.results47, go_sem, r0, r1, r2, r3]) rfl (HF.out _ _ _ _)
  have g0' : ¬ (8000 : Int) < (d.size : Int) := by omega
  by_cases hR : rightB ss ps = false
  · have hO : writeR ss ps i d = ill 1 := by unfold writeR; rw [if_neg g0, if_pos (.inl hR)]
    rw [hO]
    clear hO
    go_enter Tryz.func47, Tryz.ntmps47
    go_wp2_with fail
    refine (right_spec _ _ ss ps _ (hs.below b0) (hp.below b0) hz hzp).mono ?_
    rintro e w1 ⟨rfl, hb1⟩
    have B1 := bel2 b0' hb1
    have k01 := carry k0 hb1
    have k11 := carry k1 hb1
    obtain ⟨q0, q1, -, -⟩ := blk2 k01
    clear k0 k1 hb1 b0
    rw [hR]
    go_wp2_with fail
    refine (ill_spec 1 _).mono ?_
    rintro e wz ⟨rfl, hbz⟩
    obtain ⟨r0, r1, r2, r3, rf, -⟩ := blk4 (carry k11 hbz)
    have HF : Hid (∀ p q r s, OT w (ill 1) (.returned (.agg #[.slice none 0 0, .slice none 0 0, .string ⟨#[]⟩, .int .i64 1])) (set4 wz (w.heap.size + 1) p q r s)) := fin_ill (bel2 B1 hbz)
    go_wp2
    exact bodyPost_ret (v := .agg #[.slice none 0 0, .slice none 0 0, .string ⟨#[]⟩, .int .i64 1]) (by simp [results, Tryz.results47, go_sem, r0, r1, r2, r3]) rfl (HF.out _ _ _ _)
  have hR1 : rightB ss ps = true := by simpa using hR
  obtain ⟨n1, n2, n3, -, -⟩ := (right_iff ss ps).1 hR1
  by_cases g1 : 64 < d.size
  · have hO : writeR ss ps i d = ill 1 := by unfold writeR; rw [if_neg g0, if_pos (.inr g1)]
    rw [hO]
    clear hO
    have g1' : (64 : Int) < (d.size : Int) := by omega
    go_enter Tryz.func47, Tryz.ntmps47
    go_wp2_with fail
    refine (right_spec _ _ ss ps _ (hs.below b0) (hp.below b0) hz hzp).mono ?_
    rintro e w1 ⟨rfl, hb1⟩
    have B1 := bel2 b0' hb1
    have k01 := carry k0 hb1
    have k11 := carry k1 hb1
    obtain ⟨q0, q1, -, -⟩ := blk2 k01
    clear k0 k1 hb1 b0
    rw [hR1]
    go_wp2_with fail
    refine (ill_spec 1 _).mono ?_
    rintro e wz ⟨rfl, hbz⟩
    obtain ⟨r0, r1, r2, r3, rf, -⟩ := blk4 (carry k11 hbz)
    have HF : Hid (∀ p q r s, OT w (ill 1) (.returned (.agg #[.slice none 0 0, .slice none 0 0, .string ⟨#[]⟩, .int .i64 1])) (set4 wz (w.heap.size + 1) p q r s)) := fin_ill (bel2 B1 hbz)
    go_wp2
    exact bodyPost_ret (v := .agg #[.slice none 0 0, .slice none 0 0, .string ⟨#[]⟩, .int .i64 1]) (by simp [results, Tryz.results47, go_sem, r0, r1, r2, r3]) rfl (HF.out _ _ _ _)
  have g1' : ¬ (64 : Int) < (d.size : Int) := by omega
  have hgo : ¬ (rightB ss ps = false ∨ 64 < d.size) := fun q => by rcases q with q | q; exact hR q; omega
  by_cases hin : 0 ≤ i ∧ i < ss.length
  case neg =>
    have hO : writeR ss ps i d = ill 8 := by unfold writeR; rw [if_neg g0, if_neg hgo, if_neg hin]
    rw [hO]
    clear hO hgo hR
    go_enter Tryz.func47, Tryz.ntmps47
    go_wp2_with fail
    refine (right_spec _ _ ss ps _ (hs.below b0) (hp.below b0) hz hzp).mono ?_
    rintro e w1 ⟨rfl, hb1⟩
    have B1 := bel2 b0' hb1
    have k01 := carry k0 hb1
    have k11 := carry k1 hb1
    obtain ⟨q0, q1, -, -⟩ := blk2 k01
    clear k0 k1 hb1 b0
    rw [hR1]
    go_wp2_with (first
      | (go_at_call 82; refine (is_no _ _ _ _ (by omega)).mono ?_; rintro e w9 ⟨rfl, rfl⟩)
      | (go_at_call 85; refine (ill_spec 8 _).mono ?_; rintro e wz ⟨rfl, hbz⟩; obtain ⟨r0, r1, r2, r3, rf, -⟩ := blk4 (carry k11 hbz); have HF : Hid (∀ p q r s, OT w (ill 8) (.returned (.agg #[.slice none 0 0, .slice none 0 0, .string ⟨#[]⟩, .int .i64 8])) (set4 wz (w.heap.size + 1) p q r s)) := fin_ill (bel2 B1 hbz)))
    exact bodyPost_ret (v := .agg #[.slice none 0 0, .slice none 0 0, .string ⟨#[]⟩, .int .i64 8]) (by simp [results, Tryz.results47, go_sem, r0, r1, r2, r3]) rfl (HF.out _ _ _ _)
  obtain ⟨i0, i1⟩ := hin
  by_cases g2 : 200 ≤ ps.length
  · have hO : writeR ss ps i d = ill 9 := by unfold writeR; rw [if_neg g0, if_neg hgo, if_pos ⟨i0, i1⟩, if_pos g2]
    rw [hO]
    clear hO hgo hR
    have g2' : (200 : Int) ≤ (ps.length : Int) := by omega
    have g2'' : (ps.length : Int) = 200 := by omega
    go_enter Tryz.func47, Tryz.ntmps47
    go_wp2_with fail
    refine (right_spec _ _ ss ps _ (hs.below b0) (hp.below b0) hz hzp).mono ?_
    rintro e w1 ⟨rfl, hb1⟩
    have B1 := bel2 b0' hb1
    have k01 := carry k0 hb1
    have k11 := carry k1 hb1
    obtain ⟨q0, q1, -, -⟩ := blk2 k01
    clear k0 k1 hb1 b0
    rw [hR1]
    clear g2''
    go_wp2_with (first
      | (go_at_call 82; refine (is_yes _ _ _ _ (by omega) (by omega)).mono ?_; rintro e w9 ⟨rfl, rfl⟩)
      | (go_at_call 85; refine (ill_spec 9 _).mono ?_; rintro e wz ⟨rfl, hbz⟩; obtain ⟨r0, r1, r2, r3, rf, -⟩ := blk4 (carry k11 hbz); have HF : Hid (∀ p q r s, OT w (ill 9) (.returned (.agg #[.slice none 0 0, .slice none 0 0, .string ⟨#[]⟩, .int .i64 9])) (set4 wz (w.heap.size + 1) p q r s)) := fin_ill (bel2 B1 hbz)))
    exact bodyPost_ret (v := .agg #[.slice none 0 0, .slice none 0 0, .string ⟨#[]⟩, .int .i64 9]) (by simp [results, Tryz.results47, go_sem, r0, r1, r2, r3]) rfl (HF.out _ _ _ _)
  have hO : writeR ss ps i d = ⟨ss, ps ++ [(i, d)], ⟨#[]⟩, 0⟩ := by unfold writeR; rw [if_neg g0, if_neg hgo, if_pos ⟨i0, i1⟩, if_neg g2]
  rw [hO]
  clear hO hgo hR
  have g2' : ¬ (200 : Int) ≤ (ps.length : Int) := by omega
  obtain ⟨j0, hj, hy0, hy1, hy2⟩ := info_parts info_pend
  go_enter Tryz.func47, Tryz.ntmps47
  go_wp2_with fail
  refine (right_spec _ _ ss ps _ (hs.below b0) (hp.below b0) hz hzp).mono ?_
  rintro e w1 ⟨rfl, hb1⟩
  have B1 := bel2 b0' hb1
  have k01 := carry k0 hb1
  have k11 := carry k1 hb1
  obtain ⟨q0, q1, -, -⟩ := blk2 k01
  clear k0 k1 hb1 b0
  rw [hR1]
  go_wp2_with (first
    | (go_at_call 82; refine (is_yes _ _ _ _ (by omega) (by omega)).mono ?_; rintro e w9 ⟨rfl, hw9⟩; have hw9' := hw9.symm; subst hw9'))
  refine (copy_spec _ _ ss ps _ (hs.below B1) (hp.below B1) (by omega) (by omega)).mono ?_
  rintro e w3 ⟨fa, fc, fa', fc', rfl, f3, hb3⟩
  have B3 := bel2 B1 hb3
  have k13 := carry k11 hb3
  have z3 : Hid (w.heap.size + 2 ≤ w1.heap.size) := lt_some k11
  have RF := f3.rows
  clear q0 q1 k01 k11 B1
  have zz : Hid (w1.heap.size ≤ w3.heap.size) := hb3.size
  have al3 := bel2 (albel w3 (.cells #[.slice fa ss.length fc, .slice fa' ps.length fc'] 26)) (albel _ (.cells #[.int .i64 i, .string d] 82))
  have e4 : ((w3.alloc (.cells #[.slice fa ss.length fc, .slice fa' ps.length fc'] 26)).alloc (.cells #[.int .i64 i, .string d] 82)).heap.size = w3.heap.size + 1 + 1 := by simp
  have hown := (f3.below al3).2
  have HK : Hid (((w3.alloc (.cells #[.slice fa ss.length fc, .slice fa' ps.length fc'] 26)).alloc (.cells #[.int .i64 i, .string d] 82)).heap[w3.heap.size]? = some (.cells #[.slice fa ss.length fc, .slice fa' ps.length fc'] 26)) := carryA (heap_alloc_new w3 _) _
  have HE : Hid (((w3.alloc (.cells #[.slice fa ss.length fc, .slice fa' ps.length fc'] 26)).alloc (.cells #[.int .i64 i, .string d] 82)).heap[w3.heap.size + 1]? = some (.cells #[.int .i64 i, .string d] 82)) := alloc_at (by simp)
  have k1l := lt_some k13
  clear hb3
  go_wp2_with (first
    | (at_builtin; refine wpList_append_lies _ rfl _ _ 24 rfl w1.heap.size 82 j0 (.agg #[.int .i64 0, .string ⟨#[]⟩]) 2 24 Tryz.underlying24 hj hy0 hy1 hy2 rfl (by decide) _ ps.length (cp ps) rfl hown ⟨w3.heap.size + 1, 0, none⟩ 1 1 [.int .i64 i, .string d] rfl rfl (World.news_of_block HE.out) (by intro u hu; simp at hu; rcases hu with rfl | rfl <;> rfl) (by decide) (by unfold maxLen; omega) (by omega) (by rw [e4]; have := zz.out; omega) _ rfl ?_; intro g cap w4 hown4 hg4 hat4 hlt4
       have kl := (hg4.block w3.heap.size (by rw [e4]; omega) (fun e => by have := RF w3.heap.size (.inr e.symm); omega)).trans HK.out
       have kr := (hg4.block (w.heap.size + 1) (by rw [e4]; omega) (fun e => by have := RF (w.heap.size + 1) (.inr e.symm); have := z3.out; omega)).trans (carry k13 al3)
       obtain ⟨t0, t1, tf, t9⟩ := blk2 kl
       obtain ⟨r0, r1, r2, r3, rf, r9⟩ := blk4 kr))
  have HF : Hid (∀ p q r s u, OTold w ss (ps ++ [(i, d)]) ⟨#[]⟩ 0 (.returned (.agg #[.slice fa ss.length fc, .slice (some ⟨g, 0, none⟩) (ps.length + 1) cap, .string ⟨#[]⟩, .int .i64 0])) (set4 (w4.setCell ⟨w3.heap.size, 1, none⟩ u) (w.heap.size + 1) p q r s)) := fin_app B3 f3 al3 e4 hown4 hg4 RF hat4 z3.out
  exact bodyPost_ret (v := .agg #[.slice fa ss.length fc, .slice (some ⟨g, 0, none⟩) (ps.length + 1) cap, .string ⟨#[]⟩, .int .i64 0]) (by simp [results, Tryz.results47, go_sem, r0, r1, r2, r3]) rfl (HF.out _ _ _ _ _)
set_option maxRecDepth 100000 in
set_option maxHeartbeats 1600000 in
theorem write_impl (vs vp : Value) (ss : List ByteArray) (ps : List Pend) (i : Int) (d : ByteArray) (w : World) (hs : Strs w vs ss) (hp : Pends w vp ps) (hz : ∀ s ∈ ss, s.size ≤ maxLen) (hzp : ∀ p ∈ ps, p.2.size ≤ maxLen) (hd : d.size ≤ maxLen) :
    Calls Tryz.prog 105 #[.agg #[vs, vp], .int .i64 i, .string d] w fun e w' => OT w (writeR ss ps i d) e w' := by
  obtain ⟨sa, sc, rfl⟩ : ∃ a c, vs = .slice a ss.length c := hs.len
  obtain ⟨pa, pc, rfl⟩ : ∃ a c, vp = .slice a ps.length c := by obtain ⟨a, c, e, _⟩ := hp; exact ⟨a, c, e⟩
  obtain ⟨k0, k1, b0, z0⟩ := T5.k_box w (.cells #[.slice sa ss.length sc, .slice pa ps.length pc] 26) (.cells #[.slice none 0 0, .slice none 0 0, .string ⟨#[]⟩, .int .i64 0] 72)
  have b0' := b0
  have hmax : ss.length ≤ maxLen := by obtain ⟨_, _, _, h, _⟩ := hs; exact h
  unfold maxLen at hmax hd
  by_cases g0 : 8000 < d.size
  · have hO : writeR ss ps i d = ill 2 := by unfold writeR; rw [if_pos g0]
    rw [hO]
    clear hO
    have g0' : (8000 : Int) < (d.size : Int) := by omega
    go_enter Tryz.func105, Tryz.ntmps105
    go_wp2
    exact bodyPost_ret (v := .agg #[.slice none 0 0, .slice none 0 0, .string ⟨#[]⟩, .int .i64 2]) (by simp [results, Tryz.results105, go_sem]) rfl (none_otold w _ 2 (T5.k_box w _ _).2.2.1)
  have g0' : ¬ (8000 : Int) < (d.size : Int) := by omega
  by_cases hR : rightB ss ps = false
  · have hO : writeR ss ps i d = ill 1 := by unfold writeR; rw [if_neg g0, if_pos (.inl hR)]
    rw [hO]
    clear hO
    go_enter Tryz.func105, Tryz.ntmps105
    go_wp2_with fail
    refine (right_impl _ _ ss ps _ (hs.below b0) (hp.below b0) hz hzp).mono ?_
    rintro e w1 ⟨rfl, hb1⟩
    have B1 := bel2 b0' hb1
    have k01 := carry k0 hb1
    have k11 := carry k1 hb1
    obtain ⟨q0, q1, -, -⟩ := blk2 k01
    clear k0 k1 hb1 b0
    rw [hR]
    obtain ⟨r0, r1, r2, r3, rf, -⟩ := blk4 k11
    have HF : Hid (∀ p q r s, OT w (ill 1) (.returned (.agg #[.slice none 0 0, .slice none 0 0, .string ⟨#[]⟩, .int .i64 1])) (set4 w1 (w.heap.size + 1) p q r s)) := fin_ill B1
    go_wp2
    exact bodyPost_ret (v := .agg #[.slice none 0 0, .slice none 0 0, .string ⟨#[]⟩, .int .i64 1]) (by simp [results, Tryz.results105, go_sem, r0, r1, r2, r3]) rfl (HF.out _ _ _ _)
  have hR1 : rightB ss ps = true := by simpa using hR
  obtain ⟨n1, n2, n3, -, -⟩ := (right_iff ss ps).1 hR1
  by_cases g1 : 64 < d.size
  · have hO : writeR ss ps i d = ill 1 := by unfold writeR; rw [if_neg g0, if_pos (.inr g1)]
    rw [hO]
    clear hO
    have g1' : (64 : Int) < (d.size : Int) := by omega
    go_enter Tryz.func105, Tryz.ntmps105
    go_wp2_with fail
    refine (right_impl _ _ ss ps _ (hs.below b0) (hp.below b0) hz hzp).mono ?_
    rintro e w1 ⟨rfl, hb1⟩
    have B1 := bel2 b0' hb1
    have k01 := carry k0 hb1
    have k11 := carry k1 hb1
    obtain ⟨q0, q1, -, -⟩ := blk2 k01
    clear k0 k1 hb1 b0
    rw [hR1]
    obtain ⟨r0, r1, r2, r3, rf, -⟩ := blk4 k11
    have HF : Hid (∀ p q r s, OT w (ill 1) (.returned (.agg #[.slice none 0 0, .slice none 0 0, .string ⟨#[]⟩, .int .i64 1])) (set4 w1 (w.heap.size + 1) p q r s)) := fin_ill B1
    go_wp2
    exact bodyPost_ret (v := .agg #[.slice none 0 0, .slice none 0 0, .string ⟨#[]⟩, .int .i64 1]) (by simp [results, Tryz.results105, go_sem, r0, r1, r2, r3]) rfl (HF.out _ _ _ _)
  have g1' : ¬ (64 : Int) < (d.size : Int) := by omega
  have hgo : ¬ (rightB ss ps = false ∨ 64 < d.size) := fun q => by rcases q with q | q; exact hR q; omega
  by_cases hin : 0 ≤ i ∧ i < ss.length
  case neg =>
    have hO : writeR ss ps i d = ill 8 := by unfold writeR; rw [if_neg g0, if_neg hgo, if_neg hin]
    rw [hO]
    clear hO hgo hR
    go_enter Tryz.func105, Tryz.ntmps105
    go_wp2_with fail
    refine (right_impl _ _ ss ps _ (hs.below b0) (hp.below b0) hz hzp).mono ?_
    rintro e w1 ⟨rfl, hb1⟩
    have B1 := bel2 b0' hb1
    have k01 := carry k0 hb1
    have k11 := carry k1 hb1
    obtain ⟨q0, q1, -, -⟩ := blk2 k01
    clear k0 k1 hb1 b0
    rw [hR1]
    go_wp2_with fail
    refine (has_no _ _ _ _ _ _ hin).mono ?_
    rintro e w2 ⟨rfl, hb2⟩
    obtain ⟨r0, r1, r2, r3, rf, -⟩ := blk4 (carry k11 hb2)
    have HF : Hid (∀ p q r s, OT w (ill 8) (.returned (.agg #[.slice none 0 0, .slice none 0 0, .string ⟨#[]⟩, .int .i64 8])) (set4 w2 (w.heap.size + 1) p q r s)) := fin_ill (bel2 B1 hb2)
    go_wp2
    exact bodyPost_ret (v := .agg #[.slice none 0 0, .slice none 0 0, .string ⟨#[]⟩, .int .i64 8]) (by simp [results, Tryz.results105, go_sem, r0, r1, r2, r3]) rfl (HF.out _ _ _ _)
  obtain ⟨i0, i1⟩ := hin
  by_cases g2 : 200 ≤ ps.length
  · have hO : writeR ss ps i d = ill 9 := by unfold writeR; rw [if_neg g0, if_neg hgo, if_pos ⟨i0, i1⟩, if_pos g2]
    rw [hO]
    clear hO hgo hR
    have g2' : (200 : Int) ≤ (ps.length : Int) := by omega
    have g2'' : (ps.length : Int) = 200 := by omega
    go_enter Tryz.func105, Tryz.ntmps105
    go_wp2_with fail
    refine (right_impl _ _ ss ps _ (hs.below b0) (hp.below b0) hz hzp).mono ?_
    rintro e w1 ⟨rfl, hb1⟩
    have B1 := bel2 b0' hb1
    have k01 := carry k0 hb1
    have k11 := carry k1 hb1
    obtain ⟨q0, q1, -, -⟩ := blk2 k01
    clear k0 k1 hb1 b0
    rw [hR1]
    have ge : ((ps.length : Int) == 200) = true := by simpa using g2''
    clear g2'' g2'
    go_wp2_with fail
    refine (has_yes _ _ _ _ _ _ i0 i1).mono ?_
    rintro e w2 ⟨rfl, hb2⟩
    obtain ⟨u0, u1, -, -⟩ := blk2 (carry k01 hb2)
    obtain ⟨r0, r1, r2, r3, rf, -⟩ := blk4 (carry k11 hb2)
    have HF : Hid (∀ p q r s, OT w (ill 9) (.returned (.agg #[.slice none 0 0, .slice none 0 0, .string ⟨#[]⟩, .int .i64 9])) (set4 w2 (w.heap.size + 1) p q r s)) := fin_ill (bel2 B1 hb2)
    go_wp2
    exact bodyPost_ret (v := .agg #[.slice none 0 0, .slice none 0 0, .string ⟨#[]⟩, .int .i64 9]) (by simp [results, Tryz.results105, go_sem, r0, r1, r2, r3]) rfl (HF.out _ _ _ _)
  have hO : writeR ss ps i d = ⟨ss, ps ++ [(i, d)], ⟨#[]⟩, 0⟩ := by unfold writeR; rw [if_neg g0, if_neg hgo, if_pos ⟨i0, i1⟩, if_neg g2]
  rw [hO]
  clear hO hgo hR
  have g2' : ¬ (200 : Int) ≤ (ps.length : Int) := by omega
  obtain ⟨j0, hj, hy0, hy1, hy2⟩ := info_parts info_pend
  go_enter Tryz.func105, Tryz.ntmps105
  go_wp2_with fail
  refine (right_impl _ _ ss ps _ (hs.below b0) (hp.below b0) hz hzp).mono ?_
  rintro e w1 ⟨rfl, hb1⟩
  have B1 := bel2 b0' hb1
  have k01 := carry k0 hb1
  have k11 := carry k1 hb1
  obtain ⟨q0, q1, -, -⟩ := blk2 k01
  clear k0 k1 hb1 b0
  rw [hR1]
  have ge : ((ps.length : Int) == 200) = false := by
    have : (ps.length : Int) ≠ 200 := by omega
    simpa using this
  clear g2'
  go_wp2_with fail
  refine (has_yes _ _ _ _ _ _ i0 i1).mono ?_
  rintro e w2 ⟨rfl, hb2⟩
  have B2 := bel2 B1 hb2
  have k12 := carry k11 hb2
  obtain ⟨u0, u1, -, -⟩ := blk2 (carry k01 hb2)
  clear q0 q1 k01 k11 B1
  go_wp2_with fail
  refine (copied_any _ _ ss ps _ (hs.below B2) (hp.below B2) (by omega) (by omega)).mono ?_
  rintro e w3 ⟨fa, fc, fa', fc', rfl, f3, hb3⟩
  have B3 := bel2 B2 hb3
  have k13 := carry k12 hb3
  have z3 : Hid (w.heap.size + 2 ≤ w2.heap.size) := lt_some k12
  have RF := f3.rows
  clear u0 u1 k12 B2 hb2
  have zz : Hid (w2.heap.size ≤ w3.heap.size) := hb3.size
  have al3 := bel2 (albel w3 (.cells #[.slice fa ss.length fc, .slice fa' ps.length fc'] 26)) (albel _ (.cells #[.int .i64 i, .string d] 82))
  have e4 : ((w3.alloc (.cells #[.slice fa ss.length fc, .slice fa' ps.length fc'] 26)).alloc (.cells #[.int .i64 i, .string d] 82)).heap.size = w3.heap.size + 1 + 1 := by simp
  have hown := (f3.below al3).2
  have HK : Hid (((w3.alloc (.cells #[.slice fa ss.length fc, .slice fa' ps.length fc'] 26)).alloc (.cells #[.int .i64 i, .string d] 82)).heap[w3.heap.size]? = some (.cells #[.slice fa ss.length fc, .slice fa' ps.length fc'] 26)) := carryA (heap_alloc_new w3 _) _
  have HE : Hid (((w3.alloc (.cells #[.slice fa ss.length fc, .slice fa' ps.length fc'] 26)).alloc (.cells #[.int .i64 i, .string d] 82)).heap[w3.heap.size + 1]? = some (.cells #[.int .i64 i, .string d] 82)) := alloc_at (by simp)
  have k1l := lt_some k13
  clear hb3
  go_wp2_with (first
    | (at_builtin; refine wpList_append_lies _ rfl _ _ 24 rfl w2.heap.size 82 j0 (.agg #[.int .i64 0, .string ⟨#[]⟩]) 2 24 Tryz.underlying24 hj hy0 hy1 hy2 rfl (by decide) _ ps.length (cp ps) rfl hown ⟨w3.heap.size + 1, 0, none⟩ 1 1 [.int .i64 i, .string d] rfl rfl (World.news_of_block HE.out) (by intro u hu; simp at hu; rcases hu with rfl | rfl <;> rfl) (by decide) (by unfold maxLen; omega) (by omega) (by rw [e4]; have := zz.out; omega) _ rfl ?_; intro g cap w4 hown4 hg4 hat4 hlt4
       have kl := (hg4.block w3.heap.size (by rw [e4]; omega) (fun e => by have := RF w3.heap.size (.inr e.symm); omega)).trans HK.out
       have kr := (hg4.block (w.heap.size + 1) (by rw [e4]; omega) (fun e => by have := RF (w.heap.size + 1) (.inr e.symm); have := z3.out; omega)).trans (carry k13 al3)
       obtain ⟨t0, t1, tf, t9⟩ := blk2 kl
       obtain ⟨r0, r1, r2, r3, rf, r9⟩ := blk4 kr))
  have HF : Hid (∀ p q r s u, OTold w ss (ps ++ [(i, d)]) ⟨#[]⟩ 0 (.returned (.agg #[.slice fa ss.length fc, .slice (some ⟨g, 0, none⟩) (ps.length + 1) cap, .string ⟨#[]⟩, .int .i64 0])) (set4 (w4.setCell ⟨w3.heap.size, 1, none⟩ u) (w.heap.size + 1) p q r s)) := fin_app B3 f3 al3 e4 hown4 hg4 RF hat4 z3.out
  exact bodyPost_ret (v := .agg #[.slice fa ss.length fc, .slice (some ⟨g, 0, none⟩) (ps.length + 1) cap, .string ⟨#[]⟩, .int .i64 0]) (by simp [results, Tryz.results105, go_sem, r0, r1, r2, r3]) rfl (HF.out _ _ _ _ _)
end Go.Proofs.YtfiabbfdnmldjaaGreatDoor.TA

/-
  Flushing a disk, as the specification and as the program have it.
-/
namespace Go.Proofs.YtfiabbfdnmldjaaGreatDoor.TB
open Go.RowKit
open Go.Proofs.YtfiabbfdnmldjaaGreatDoor.C0 Go.Proofs.YtfiabbfdnmldjaaGreatDoor.S0 Go.Proofs.YtfiabbfdnmldjaaGreatDoor.S1 Go.Proofs.YtfiabbfdnmldjaaGreatDoor.S2 Go.Proofs.YtfiabbfdnmldjaaGreatDoor.S3 Go.Proofs.YtfiabbfdnmldjaaGreatDoor.S4 Go.Proofs.YtfiabbfdnmldjaaGreatDoor.O1 Go.Proofs.YtfiabbfdnmldjaaGreatDoor.T0 Go.Proofs.YtfiabbfdnmldjaaGreatDoor.T1 Go.Proofs.YtfiabbfdnmldjaaGreatDoor.T2 Go.Proofs.YtfiabbfdnmldjaaGreatDoor.T3 Go.Proofs.YtfiabbfdnmldjaaGreatDoor.T4 Go.Proofs.YtfiabbfdnmldjaaGreatDoor.T5 Go.Proofs.YtfiabbfdnmldjaaGreatDoor.T6 Go.Proofs.YtfiabbfdnmldjaaGreatDoor.T8
open Go.Proofs.YtfiabbfdnmldjaaGreatDoor.Dk (Out ill flushR flushOf flushOf_length flushOf_snoc putOne putOne_length rightB right_iff)
/-- A row of sectors of the call's own, told with nothing pending. -/
theorem fin_fl {w X : World} {a : Option Addr} {c n B : Nat} {l : List ByteArray} (hl : l.length = n) (h : Below w.heap.size w X) (ho : OStrs B X (.slice a n c) l) (hB : w.heap.size + 2 ≤ B) (p q r s : Value) :
    OTold w l [] ⟨#[]⟩ 0 (.returned (.agg #[.slice a n c, .slice none 0 0, .string ⟨#[]⟩, .int .i64 0])) (set4 X (w.heap.size + 1) p q r s) := by
  subst hl
  exact fin_out (a' := none) (c' := 0) (ps := []) h ⟨ho, World.ownsRow_nil _ _ _ _⟩ hB p q r s

theorem keepR {w : World} {g q b0 b1 b2 o0 o1 o2 o3 : Nat} {v0 v1 v2 v3 u : Value} (m1 : b0 ≠ g) (m2 : b1 ≠ g) (m3 : b2 ≠ g) (h0 : w.cell? ⟨b0, o0, none⟩ = some v0) (h1 : w.cell? ⟨b1, o1, none⟩ = some v1) (h2 : w.cell? ⟨b2, o2, none⟩ = some v2) (h3 : w.cell? ⟨b2, o3, none⟩ = some v3) :
    (w.setCell ⟨g, q, none⟩ u).drew.cell? ⟨b0, o0, none⟩ = some v0 ∧ (w.setCell ⟨g, q, none⟩ u).drew.cell? ⟨b1, o1, none⟩ = some v1 ∧ (w.setCell ⟨g, q, none⟩ u).drew.cell? ⟨b2, o2, none⟩ = some v2 ∧ (w.setCell ⟨g, q, none⟩ u).drew.cell? ⟨b2, o3, none⟩ = some v3 := by
  have f : ∀ b o, b ≠ g → (w.setCell ⟨g, q, none⟩ u).drew.cell? ⟨b, o, none⟩ = w.cell? ⟨b, o, none⟩ := fun b o hb => World.cell?_of_block (w := w) (Below.heap_setCell w ⟨g, q, none⟩ u b hb)
  rw [f _ _ m1, f _ _ m2, f _ _ m3, f _ _ m3]
  exact ⟨h0, h1, h2, h3⟩
/-- Round by round: the row of sectors of the call's own. -/
def RelF (P : Nat) (W : World) (a : Option Addr) (c : Nat) (ss : List ByteArray) (ps : List Pend) (x : Value) (wr : World) : Prop :=
  ∃ k : Nat, k ≤ ps.length ∧ x = .int .i64 k ∧ OStrs P wr (.slice a ss.length c) (flushOf ss (ps.take k)) ∧ Wrote (mine (.slice a ss.length c)) W wr
theorem RelF.drew {P : Nat} {W : World} {a : Option Addr} {c : Nat} {ss : List ByteArray} {ps : List Pend} {x : Value} {wr : World} (h : RelF P W a c ss ps x wr) : RelF P W a c ss ps x wr.drew := by
  obtain ⟨k, h1, h2, h3, h4⟩ := h
  exact ⟨k, h1, h2, h3, h4.drew⟩
theorem RelF.step {P k g q c : Nat} {W wr : World} {ss : List ByteArray} {ps : List Pend} {d : ByteArray} (hk : k < ps.length) (hp : ps[k]? = some ((q : Int), d)) (ho : OStrs P wr (.slice (some ⟨g, 0, none⟩) ss.length c) (flushOf ss (ps.take k))) (ht : Wrote (mine (.slice (some ⟨g, 0, none⟩) ss.length c)) W wr) :
    RelF P W (some ⟨g, 0, none⟩) c ss ps (.int .i64 ((k : Int) + 1)) (wr.setCell ⟨g, q, none⟩ (.string d)) := by
  refine ⟨k + 1, by omega, by simp, ?_, ht.setCell (p := ⟨g, q, none⟩) (.inr rfl) _⟩
  rw [get_take_succ ps k _ hp, flushOf_snoc]
  exact stored_strs ho (flushOf_length _ _) q d
set_option maxRecDepth 100000 in
set_option maxHeartbeats 1600000 in
theorem flush_spec (vs vp : Value) (ss : List ByteArray) (ps : List Pend) (w : World) (hs : Strs w vs ss) (hp : Pends w vp ps) (hz : ∀ s ∈ ss, s.size ≤ maxLen) (hzp : ∀ p ∈ ps, p.2.size ≤ maxLen) :
    Calls Tryz.prog 49 #[.agg #[vs, vp]] w fun e w' => OT w (flushR ss ps) e w' := by
  obtain ⟨sa, sc, rfl⟩ : ∃ a c, vs = .slice a ss.length c := hs.len
  obtain ⟨pa, pc, rfl⟩ : ∃ a c, vp = .slice a ps.length c := by obtain ⟨a, c, e, _⟩ := hp; exact ⟨a, c, e⟩
  obtain ⟨k0, k1, b0, z0⟩ := T5.k_box w (.cells #[.slice sa ss.length sc, .slice pa ps.length pc] 26) (.cells #[.slice none 0 0, .slice none 0 0, .string ⟨#[]⟩, .int .i64 0] 72)
  by_cases hR : rightB ss ps = false
  · have hO : flushR ss ps = ill 1 := by unfold flushR; rw [if_pos hR]
    rw [hO]
    clear hO
    go_enter Tryz.func49, Tryz.ntmps49
    go_wp2_with fail
    refine (right_spec _ _ ss ps _ (hs.below b0) (hp.below b0) hz hzp).mono ?_
    rintro e w1 ⟨rfl, hb1⟩
    have B1 := bel2 b0 hb1
    have k11 := carry k1 hb1
    rw [hR]
    go_wp2_with fail
    refine (ill_spec 1 _).mono ?_
    rintro e w2 ⟨rfl, hb2⟩
    obtain ⟨r0, r1, r2, r3, rf, -⟩ := blk4 (carry k11 hb2)
    have HF : Hid (∀ p q r s, OT w (ill 1) (.returned (.agg #[.slice none 0 0, .slice none 0 0, .string ⟨#[]⟩, .int .i64 1])) (set4 w2 (w.heap.size + 1) p q r s)) := fin_ill (bel2 B1 hb2)
    go_wp2
    exact bodyPost_ret (v := .agg #[.slice none 0 0, .slice none 0 0, .string ⟨#[]⟩, .int .i64 1]) (by simp [results, Tryz.results49, go_sem, r0, r1, r2, r3]) rfl (HF.out _ _ _ _)
  have hR1 : rightB ss ps = true := by simpa using hR
  obtain ⟨n1, n2, n3, -, hpr⟩ := (right_iff ss ps).1 hR1
  have hO : flushR ss ps = ⟨flushOf ss ps, [], ⟨#[]⟩, 0⟩ := by unfold flushR; rw [if_neg hR]
  rw [hO]
  clear hO hR
  obtain ⟨i0, hi, hz0, hz1, hz2⟩ := info_parts info_str
  go_enter Tryz.func49, Tryz.ntmps49
  go_wp2_with fail
  refine (right_spec _ _ ss ps _ (hs.below b0) (hp.below b0) hz hzp).mono ?_
  rintro e w1 ⟨rfl, hb1⟩
  have B1 := bel2 b0 hb1
  have k01 := carry k0 hb1
  have k11 := carry k1 hb1
  obtain ⟨q0, q1, -, q9⟩ := blk2 k01
  clear k0 k1 hb1 b0
  rw [hR1]
  have al1 := albel w1 (.cells #[] 9)
  have hsrc := (src_strs (hs.below (bel2 B1 al1))).2
  go_wp2_with (first
    | (at_builtin; refine wpList_copy _ rfl _ _ 23 rfl 9 i0 (.string ⟨#[]⟩) 1 16 Tryz.underlying23 hi hz0 hz1 hz2 rfl (by decide) w1.heap.size w1.heap.size rfl (lit_s _ w1 (Nat.le_refl _)) _ _ _ rfl (cs ss) (cs_length ss) hsrc (one_cs ss) (by unfold maxLen; omega) (by omega) (by simp) ?_; intro a c w2 hown hg))
  have B2 := (bel2 B1 al1).grown hg (by simp; have := B1.size; omega) (fun k h => by cases h; exact B1.size)
  have kb := carryA ((hg.block _ (by simp; omega) (by simp; omega)).trans (carryA k01 (.cells #[] 9))) (.cells #[.slice a ss.length c, .slice none 0 0] 26)
  have kr := carryA ((hg.block _ (by have := lt_some k11; simp; omega) (by have := lt_some k11; simp; omega)).trans (carryA k11 (.cells #[] 9))) (.cells #[.slice a ss.length c, .slice none 0 0] 26)
  have kl := heap_alloc_new w2 (.cells #[.slice a ss.length c, .slice none 0 0] 26)
  have ho : OStrs w1.heap.size (w2.alloc (.cells #[.slice a ss.length c, .slice none 0 0] 26)) (.slice a ss.length c) ss := OStrs.below hown (albel _ _)
  have BW := B2.trans ((albel w2 (.cells #[.slice a ss.length c, .slice none 0 0] 26)).mono B2.size)
  have RR : ∀ g, (Value.slice a ss.length c).ownBlock = some g → w1.heap.size ≤ g ∧ g < w2.heap.size := fun g h => hown.lt g h
  have z1 : w.heap.size + 2 ≤ w1.heap.size := lt_some k11
  generalize hWe : w2.alloc (.cells #[.slice a ss.length c, .slice none 0 0] 26) = W at *
  clear hWe hsrc hown hg al1 q0 q1 q9 k01 k11 B2 z0
  have H0 : Hid (RelF w1.heap.size W a c ss ps (.int .i64 0) W) := ⟨0, Nat.zero_le _, rfl, ho, Wrote.refl _ _⟩
  clear ho
  obtain ⟨pa', cap2, e, hl2, hc2⟩ := hp
  simp only [Value.slice.injEq] at e
  obtain ⟨rfl, -, rfl⟩ := e
  go_loopw [4] (fun x wr => RelF w1.heap.size W a c ss ps x wr) (fun x _ => ps.length - (intOf x).toNat)
  case atStart => exact H0.out
  case round =>
    clear H0
    obtain ⟨k, hk, rfl, ho, ht⟩ := hrel
    have Bwr : Below w.heap.size w wr := BW.trans (ht.below BW.size (fun g h => by have := RR g h; omega))
    have kbr := carryW kb ht (fun h => by have := RR _ h; omega)
    have klr := carryW kl ht (fun h => by have := RR _ h; omega)
    obtain ⟨q0, q1, -, q9⟩ := blk2 kbr
    obtain ⟨l0, l1, lf, l9⟩ := blk2 klr
    by_cases hlt : k < ps.length
    · have hlt' : (k : Int) < (ps.length : Int) := by omega
      obtain ⟨g, rfl, -, hg1, hg2⟩ := form_strs ho (by rw [flushOf_length]; omega)
      have hgr := RR g rfl
      obtain ⟨b2, off2, rfl, hbb2, hcc2⟩ := hc2 (by omega)
      obtain ⟨p, hpk⟩ : ∃ p, ps[k]? = some p := ⟨_, List.getElem?_eq_getElem hlt⟩
      obtain ⟨v0, v1, -⟩ := hpr p (List.mem_of_getElem? hpk)
      obtain ⟨z, d⟩ := p
      dsimp only at v0 v1
      obtain ⟨q, rfl⟩ : ∃ q : Nat, z = q := ⟨z.toNat, by omega⟩
      obtain ⟨d0, d1⟩ := hcc2 k _ hpk
      dsimp only at d0 d1
      rw [← Bwr.cell (p := ⟨b2, off2 + k * 2, none⟩) hbb2] at d0
      rw [← Bwr.cell (p := ⟨b2, off2 + k * 2 + 1, none⟩) hbb2] at d1
      obtain ⟨⟨o, hoo⟩, hfo⟩ := own_cell_s ho q (by rw [flushOf_length]; omega)
      have HN : Hid (RelF w1.heap.size W (some ⟨g, 0, none⟩) c ss ps (.int .i64 ((k : Int) + 1)) (wr.setCell ⟨g, q, none⟩ (.string d))) := RelF.step hlt hpk ho ht
      have m1 : w.heap.size ≠ g := by omega
      have m2 : w2.heap.size ≠ g := by omega
      have m3 : b2 ≠ g := by omega
      clear hpk hcc2 ho ht Bwr kbr klr
      go_wp2
      go_region_held3 (fun w' => w'.cell? ⟨w.heap.size, 1, none⟩ = some (.slice (some ⟨b2, off2, none⟩) ps.length pc) ∧ w'.cell? ⟨w2.heap.size, 0, none⟩ = some (.slice (some ⟨g, 0, none⟩) ss.length c) ∧ w'.cell? ⟨b2, off2 + k * 2, none⟩ = some (.int .i64 q) ∧ w'.cell? ⟨b2, off2 + k * 2 + 1, none⟩ = some (.string d))
        (first
          | exact ⟨q1, l0, d0, d1⟩
          | exact keepR m1 m2 m3 q1 l0 d0 d1
          | go_keep)
        (fail)
      go_wp2
      go_roundw
      case rel => exact HN.out.drew
      case measure => simp [intOf]; omega
    · obtain rfl : k = ps.length := by omega
      rw [List.take_of_length_le (Nat.le_refl _)] at ho
      obtain ⟨r0, r1, r2, r3, rf, -⟩ := blk4 (carryW kr ht (fun h => by have := RR _ h; omega))
      have HF : Hid (∀ p q r s, OTold w (flushOf ss ps) [] ⟨#[]⟩ 0 (.returned (.agg #[.slice a ss.length c, .slice none 0 0, .string ⟨#[]⟩, .int .i64 0])) (set4 wr (w.heap.size + 1) p q r s)) := fin_fl (flushOf_length ps ss) Bwr ho z1
      clear ho ht Bwr kbr klr
      go_wp2
      exact bodyPost_ret (v := .agg #[.slice a ss.length c, .slice none 0 0, .string ⟨#[]⟩, .int .i64 0]) (by simp [results, Tryz.results49, go_sem, r0, r1, r2, r3]) rfl (HF.out _ _ _ _)
theorem flush_len (B : Nat) (a : Option Addr) (c m n k N : Nat) (f : Nat → Option Pend) (l : List ByteArray) (p : Pend) (x : Value) (w : World) (hN : l.length = N) (hs : OStrs B w (.slice a N c) l) (hm : MapIs w m n f) (hf : f k = some p) (hk : k < 1000) (hp0 : 0 ≤ p.1) (hp1 : p.1 < N) (hz : N ≤ 64) :
    Calls Tryz.prog 55 #[.agg #[.slice a N c, .map (some m), x], .int .i64 k] w fun e w' => e = .returned (.tuple #[]) ∧ OStrs B w' (.slice a N c) (putOne l p) ∧ MapIs w' m n (upd f k none) ∧ Wrote (fun g => g = m ∨ mine (.slice a N c) g) w w' := by
  subst hN
  exact flush_any B a c m n k f l p x w hs hm hf hk hp0 hp1 hz
abbrev two (m : Nat) (v : Value) : Nat → Prop := fun g => g = m ∨ mine v g
def RelW (P m n : Nat) (W : World) (a : Option Addr) (c : Nat) (ss : List ByteArray) (ps : List Pend) (x : Value) (wr : World) : Prop :=
  ∃ k : Nat, k ≤ ps.length ∧ x = .int .i64 k ∧ OStrs P wr (.slice a ss.length c) (flushOf ss (ps.take k)) ∧ MapIs wr m n (fun i => if i < k then none else ps[i]?) ∧ Wrote (two m (.slice a ss.length c)) W wr
theorem RelW.step {P m n k c : Nat} {W wr w2 : World} {a : Option Addr} {ss : List ByteArray} {ps : List Pend} {p : Pend} (hk : k < ps.length) (hp : ps[k]? = some p) (ho : OStrs P w2 (.slice a ss.length c) (putOne (flushOf ss (ps.take k)) p)) (hm : MapIs w2 m n (upd (fun i => if i < k then none else ps[i]?) k none))
    (h1 : Wrote (two m (.slice a ss.length c)) W wr) (h2 : Wrote (two m (.slice a ss.length c)) wr w2) : RelW P m n W a c ss ps (.int .i64 ((k : Int) + 1)) w2 := by
  refine ⟨k + 1, by omega, by simp, ?_, hm.congr (fun i _ => ?_), h1.trans h2⟩
  · rw [get_take_succ ps k _ hp, flushOf_snoc]; exact ho
  · show (if i = k then none else if i < k then none else ps[i]?) = if i < k + 1 then none else ps[i]?
    by_cases e : i = k
    · subst e; rw [if_pos rfl, if_pos (by omega)]
    · rw [if_neg e]
      by_cases h : i < k
      · rw [if_pos h, if_pos (by omega)]
      · rw [if_neg h, if_neg (by omega)]
set_option maxRecDepth 100000 in
set_option maxHeartbeats 1600000 in
theorem flush_impl (vs vp : Value) (ss : List ByteArray) (ps : List Pend) (w : World) (hs : Strs w vs ss) (hp : Pends w vp ps) (hz : ∀ s ∈ ss, s.size ≤ maxLen) (hzp : ∀ p ∈ ps, p.2.size ≤ maxLen) :
    Calls Tryz.prog 81 #[.agg #[vs, vp]] w fun e w' => OT w (flushR ss ps) e w' := by
  obtain ⟨sa, sc, rfl⟩ : ∃ a c, vs = .slice a ss.length c := hs.len
  obtain ⟨pa, pc, rfl⟩ : ∃ a c, vp = .slice a ps.length c := by obtain ⟨a, c, e, _⟩ := hp; exact ⟨a, c, e⟩
  obtain ⟨k0, k1, b0, z0⟩ := T5.k_box w (.cells #[.slice sa ss.length sc, .slice pa ps.length pc] 26) (.cells #[.slice none 0 0, .slice none 0 0, .string ⟨#[]⟩, .int .i64 0] 72)
  by_cases hR : rightB ss ps = false
  · have hO : flushR ss ps = ill 1 := by unfold flushR; rw [if_pos hR]
    rw [hO]
    clear hO
    go_enter Tryz.func81, Tryz.ntmps81
    go_wp2_with fail
    refine (right_impl _ _ ss ps _ (hs.below b0) (hp.below b0) hz hzp).mono ?_
    rintro e w1 ⟨rfl, hb1⟩
    have B1 := bel2 b0 hb1
    obtain ⟨r0, r1, r2, r3, rf, -⟩ := blk4 (carry k1 hb1)
    rw [hR]
    have HF : Hid (∀ p q r s, OT w (ill 1) (.returned (.agg #[.slice none 0 0, .slice none 0 0, .string ⟨#[]⟩, .int .i64 1])) (set4 w1 (w.heap.size + 1) p q r s)) := fin_ill B1
    go_wp2
    exact bodyPost_ret (v := .agg #[.slice none 0 0, .slice none 0 0, .string ⟨#[]⟩, .int .i64 1]) (by simp [results, Tryz.results81, go_sem, r0, r1, r2, r3]) rfl (HF.out _ _ _ _)
  have hR1 : rightB ss ps = true := by simpa using hR
  obtain ⟨n1, n2, n3, -, hpr⟩ := (right_iff ss ps).1 hR1
  have hO : flushR ss ps = ⟨flushOf ss ps, [], ⟨#[]⟩, 0⟩ := by unfold flushR; rw [if_neg hR]
  rw [hO]
  clear hO hR
  go_enter Tryz.func81, Tryz.ntmps81
  go_wp2_with fail
  refine (right_impl _ _ ss ps _ (hs.below b0) (hp.below b0) hz hzp).mono ?_
  rintro e w1 ⟨rfl, hb1⟩
  have B1 := bel2 b0 hb1
  have k01 := carry k0 hb1
  have k11 := carry k1 hb1
  obtain ⟨q0, q1, -, q9⟩ := blk2 k01
  clear k0 k1 hb1 b0
  rw [hR1]
  go_wp2_with fail
  refine (T7.atWork_any _ _ ss ps _ (hs.below B1) (hp.below B1) n2 n3).mono ?_
  rintro e w2 ⟨a, c, m, n, rfl, o2, m2, hn, hm1, hb2⟩
  have RR : ∀ g, two m (.slice a ss.length c) g → w1.heap.size ≤ g ∧ g < w2.heap.size := fun g h => by
    rcases h with h | h
    · subst h; exact ⟨hm1, m2.lt⟩
    · exact o2.lt g h
  have B2 := bel2 B1 hb2
  have z1 : w.heap.size + 2 ≤ w1.heap.size := lt_some k11
  have kr := carryA (carry k11 hb2) (.cells #[.slice a ss.length c, .map (some m), .int .i64 (ps.length : Nat)] 85)
  have kl := heap_alloc_new w2 (.cells #[.slice a ss.length c, .map (some m), .int .i64 (ps.length : Nat)] 85)
  have ho := o2.below (albel w2 (.cells #[.slice a ss.length c, .map (some m), .int .i64 (ps.length : Nat)] 85))
  have hm := m2.alloc (.cells #[.slice a ss.length c, .map (some m), .int .i64 (ps.length : Nat)] 85)
  have BW := bel2 B2 (albel w2 (.cells #[.slice a ss.length c, .map (some m), .int .i64 (ps.length : Nat)] 85))
  have Z2 : Hid (w1.heap.size ≤ w2.heap.size) := hb2.size
  clear q0 q1 q9 k01 k11 hb2 o2 m2 B2 z0
  go_wp2
  generalize hWe : w2.alloc (.cells #[.slice a ss.length c, .map (some m), .int .i64 (ps.length : Nat)] 85) = W at *
  clear hWe
  have H0 : Hid (RelW w1.heap.size m n W a c ss ps (.int .i64 0) W) := ⟨0, Nat.zero_le _, rfl, ho, hm.congr (fun i _ => by simp), Wrote.refl _ _⟩
  clear ho hm
  go_loopw [13] (fun x wr => RelW w1.heap.size m n W a c ss ps x wr) (fun x _ => ps.length - (intOf x).toNat)
  case atStart => exact H0.out
  case round =>
    clear H0
    obtain ⟨k, hk, rfl, ho, hm, ht⟩ := hrel
    have Bwr : Below w.heap.size w wr := BW.trans (ht.below BW.size (fun g h => by have := RR g h; omega))
    have klr := carryW kl ht (fun h => by have := RR _ h; omega)
    have krr := carryW kr ht (fun h => by have := RR _ h; omega)
    obtain ⟨l0, l1, l2, lf, l9⟩ := blk3 klr
    by_cases hlt : k < ps.length
    · have hlt' : (k : Int) < (ps.length : Int) := by omega
      obtain ⟨p, hpk⟩ : ∃ p, ps[k]? = some p := ⟨_, List.getElem?_eq_getElem hlt⟩
      obtain ⟨v0, v1, -⟩ := hpr p (List.mem_of_getElem? hpk)
      have HC : Hid (∀ x, Calls Tryz.prog 55 #[.agg #[.slice a ss.length c, .map (some m), x], .int .i64 k] wr fun e w' => e = .returned (.tuple #[]) ∧ RelW w1.heap.size m n W a c ss ps (.int .i64 ((k : Int) + 1)) w') := fun x =>
        (flush_len w1.heap.size a c m n k ss.length _ _ p x wr (flushOf_length _ _) ho hm (by show (if k < k then none else ps[k]?) = some p; rw [if_neg (by omega), hpk]) (by omega) v0 v1 n2).mono (fun e w' h => ⟨h.1, RelW.step hlt hpk h.2.1 h.2.2.1 ht h.2.2.2⟩)
      clear hpk ho hm ht Bwr klr krr v0 v1
      go_wp2_with fail
      refine (HC.out _).mono ?_
      rintro e w3 ⟨rfl, HN⟩
      go_wp2
      go_roundw
      case rel => exact HN
      case measure => simp [intOf]; omega
    · obtain rfl : k = ps.length := by omega
      rw [List.take_of_length_le (Nat.le_refl _)] at ho
      have HD : Hid (∀ i, i < ps.length → (fun i => if i < ps.length then none else ps[i]?) i = none) := fun i hi => by show (if i < ps.length then none else ps[i]?) = none; rw [if_pos hi]
      go_wp2_with fail
      refine (disk_any a ss.length c m n ps.length _ _ hm HD.out n3).mono ?_
      rintro e w3 ⟨rfl, hb3⟩
      obtain ⟨r0, r1, r2, r3, rf, -⟩ := blk4 (carry krr hb3)
      have HF : Hid (∀ p q r s, OTold w (flushOf ss ps) [] ⟨#[]⟩ 0 (.returned (.agg #[.slice a ss.length c, .slice none 0 0, .string ⟨#[]⟩, .int .i64 0])) (set4 w3 (w.heap.size + 1) p q r s)) := fin_fl (flushOf_length ps ss) (bel2 Bwr hb3) (ho.below hb3) z1
      clear ho ht Bwr klr krr hm HD
      go_wp2
      exact bodyPost_ret (v := .agg #[.slice a ss.length c, .slice none 0 0, .string ⟨#[]⟩, .int .i64 0]) (by simp [results, Tryz.results81, go_sem, r0, r1, r2, r3]) rfl (HF.out _ _ _ _)
end Go.Proofs.YtfiabbfdnmldjaaGreatDoor.TB
