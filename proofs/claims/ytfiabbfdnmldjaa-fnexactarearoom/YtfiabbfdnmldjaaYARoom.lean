/-
  The law on AreaRoom, walked.
-/
import Derived.Test.YtfiabbfdnmldjaaO1
import Derived.Test.YtfiabbfdnmldjaaU0
namespace Go.Proofs.Ytfiabbfdnmldjaa.YARoom
open Go.RowKit
open Go.Proofs.Ytfiabbfdnmldjaa.C0 Go.Proofs.Ytfiabbfdnmldjaa.S0 Go.Proofs.Ytfiabbfdnmldjaa.S1 Go.Proofs.Ytfiabbfdnmldjaa.S2 Go.Proofs.Ytfiabbfdnmldjaa.S3 Go.Proofs.Ytfiabbfdnmldjaa.O1
set_option maxRecDepth 100000 in
set_option maxHeartbeats 1600000 in
theorem walk (vs vp : Value) (ss : List ByteArray) (ps : List Pend) (w : World) (hs : Strs w vs ss) (hp : Pends w vp ps) (hz : ∀ s ∈ ss, s.size ≤ maxLen) (hzp : ∀ p ∈ ps, p.2.size ≤ maxLen) :
    Calls Try.prog 3 #[.agg #[vs, vp]] w fun e w' => e = .returned (.bool true) ∧ Below w.heap.size w w' := by
  have b0 : Below w.heap.size w (w.alloc (.cells #[vs, vp] 25)) := (Below.refl _ _).alloc (Nat.le_refl _) _
  go_enter Try.func3, Try.ntmps3
  go_wp2_with fail
  refine (szDisk_any vs vp ss ps _ (hs.below b0) (hp.below b0) hz hzp).mono ?_
  rintro e w1 ⟨r, rfl, hr, hb1⟩
  have b1 : Below w.heap.size w w1 := b0.trans (hb1.mono b0.size)
  have k1 := carry (heap_alloc_new w _) hb1
  obtain ⟨q0, q1, -, -⟩ := blk2 k1
  rcases hr with hr | ⟨hr0, n1, n2, -, -⟩
  · go_wp2
    go_ret
    exact ⟨rfl, b1⟩
  have hd : ¬ r < 0 := by omega
  go_wp2_with fail
  refine (toDisk_any vs vp ss ps _ (hs.below b1) (hp.below b1) n1 n2).mono ?_
  rintro e w2 ⟨a, c, a', c', rfl, ho2, hb2⟩
  have b2 := b1.trans (hb2.mono b1.size)
  have k2 := carry k1 hb2
  clear q0 q1 hb1 k1
  obtain ⟨q0, q1, -, -⟩ := blk2 k2
  go_wp2_with fail
  refine (U0.room_spec _ _ ss ps _ ho2.1.strs ho2.2.pends hz hzp).mono ?_
  rintro e w3 ⟨rfl, hb3⟩
  have b3 := b2.trans (hb3.mono b2.size)
  have k3 := carry k2 hb3
  clear q0 q1 hb2 k2 ho2
  obtain ⟨q0, q1, -, -⟩ := blk2 k3
  go_wp2_with fail
  refine (toDisk_any vs vp ss ps _ (hs.below b3) (hp.below b3) n1 n2).mono ?_
  rintro e w4 ⟨d, f, d', f', rfl, ho4, hb4⟩
  have b4 := b3.trans (hb4.mono b3.size)
  have k4 := carry k3 hb4
  clear q0 q1 hb3 k3
  obtain ⟨q0, q1, -, -⟩ := blk2 k4
  have al4 : Below w4.heap.size w4 (w4.alloc (.cells #[.slice d ss.length f, .slice d' ps.length f'] 30)) := (Below.refl _ _).alloc (Nat.le_refl _) _
  go_wp2_with fail
  refine (U0.room_impl _ _ ss ps _ (ho4.below al4).1.strs (ho4.below al4).2.pends hz hzp).mono ?_
  rintro e w5 ⟨rfl, hb5⟩
  have b5 := (b4.trans (al4.mono b4.size)).trans (hb5.mono (b4.trans (al4.mono b4.size)).size)
  have k5 := carry (carryA k4 _) hb5
  have x5 := carry (heap_alloc_new w4 _) hb5
  have ho5 := (ho4.below al4).below hb5
  clear q0 q1 hb4 k4
  obtain ⟨q0, q1, -, -⟩ := blk2 k5
  obtain ⟨x0, x1, -, -⟩ := blk2 x5
  go_wp2_with fail
  go_region_with (first
    | (go_at_call 6; refine (toDisk_any vs vp ss ps _ (hs.below b5.drew) (hp.below b5.drew) n1 n2).mono ?_; rintro e w6 ⟨g, h, g', h', rfl, ho6, hb6'⟩; have hb6 := undrew hb6'; have b6 := b5.trans (hb6.mono b5.size); have x6 := carry x5 hb6; obtain ⟨y0, y1, -, -⟩ := blk2 x6; have ho56 := ho5.below hb6)
    | (go_at_call 8; refine (eqDisk_any _ _ _ _ ss ps _ ho56.1.strs ho56.2.pends ho6.1.strs ho6.2.pends).mono ?_; rintro e w7 ⟨rfl, hb7⟩))
  all_goals
    go_wp2
    go_ret
    exact ⟨rfl, b6.trans (hb7.mono b6.size)⟩
end Go.Proofs.Ytfiabbfdnmldjaa.YARoom
