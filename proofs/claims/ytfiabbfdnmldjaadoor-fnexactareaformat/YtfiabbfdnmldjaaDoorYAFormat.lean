/-
  The law on AreaFormat, walked.
-/
import Derived.Test.YtfiabbfdnmldjaaDoorPC
import Derived.Test.YtfiabbfdnmldjaaDoorU6
import Derived.Deep.RegionHeld3
namespace Go.Proofs.YtfiabbfdnmldjaaDoor.YAFormat
open Go.RowKit
open Go.Proofs.YtfiabbfdnmldjaaDoor.C0 Go.Proofs.YtfiabbfdnmldjaaDoor.S0 Go.Proofs.YtfiabbfdnmldjaaDoor.S1 Go.Proofs.YtfiabbfdnmldjaaDoor.S2 Go.Proofs.YtfiabbfdnmldjaaDoor.S3 Go.Proofs.YtfiabbfdnmldjaaDoor.S4 Go.Proofs.YtfiabbfdnmldjaaDoor.S6 Go.Proofs.YtfiabbfdnmldjaaDoor.O1 Go.Proofs.YtfiabbfdnmldjaaDoor.T2 Go.Proofs.YtfiabbfdnmldjaaDoor.T4 Go.Proofs.YtfiabbfdnmldjaaDoor.T5 Go.Proofs.YtfiabbfdnmldjaaDoor.Mk Go.Proofs.YtfiabbfdnmldjaaDoor.U1 Go.Proofs.YtfiabbfdnmldjaaDoor.U4
theorem both (a1 a3 a5 a9 : Addr) (ss : List ByteArray) (ps : List Pend) (_n1 : ss.length ≤ 1048576) (_n2 : ps.length ≤ 1048576) (hz : ∀ s ∈ ss, s.size ≤ maxLen) (hzp : ∀ p ∈ ps, p.2.size ≤ maxLen) :
    ∃ (l : List ByteArray) (p : List Pend) (d : ByteArray) (g k : Int), l.length ≤ 1048576 ∧ p.length ≤ 1048577 ∧
      (∀ vs vp w, Strs w vs ss → Pends w vp ps → Calls Tryd.prog 6 #[.agg #[vs, vp]] w fun e w' => ATold w l p d g k e w') ∧
      ∀ vs vp w, Sents w a1 a3 a5 a9 → Strs w vs ss → Pends w vp ps → Calls Tryd.prog 8 #[.agg #[vs, vp]] w fun e w' => ATold w l p d g k e w' := by
  refine ⟨_, _, _, _, _, ?_, ?_, fun vs vp w h1 h2 => U5.format_spec vs vp ss ps w h1 h2 hz hzp, fun vs vp w hS h1 h2 => U6.format_impl a1 a3 a5 a9 vs vp ss ps w hS h1 h2 hz hzp⟩
  · have := (U5.form_sizes ss ps).1
    show (U5.formO ss ps).ss.length ≤ _
    omega
  · have := (U5.form_sizes ss ps).2
    show (U5.formO ss ps).ps.length ≤ _
    omega
theorem keepX {w6 w' : World} {g g' : Nat} {a b c d : Value} {T U : TypeId} (k : w6.heap[g]? = some (.cells #[a, b] T)) (i : w6.heap[g']? = some (.cells #[c, d] U)) (h : Below w6.heap.size w6 w') :
    w'.cell? ⟨g, 0, none⟩ = some a ∧ w'.cell? ⟨g, 1, none⟩ = some b ∧ w'.cell? ⟨g', 0, none⟩ = some c ∧ w'.cell? ⟨g', 1, none⟩ = some d :=
  ⟨(blk2 (carry k h)).1, (blk2 (carry k h)).2.1, (blk2 (carry i h)).1, (blk2 (carry i h)).2.1⟩
set_option maxRecDepth 100000 in
set_option maxHeartbeats 4000000 in
theorem walk (a1 a3 a5 a9 : Addr) (vs vp : Value) (ss : List ByteArray) (ps : List Pend) (w : World) (hS : Sents w a1 a3 a5 a9) (hs : Strs w vs ss) (hp : Pends w vp ps) (hz : ∀ s ∈ ss, s.size ≤ maxLen) (hzp : ∀ p ∈ ps, p.2.size ≤ maxLen) :
    Calls Tryd.prog 3 #[.agg #[vs, vp]] w fun e w' => e = .returned (.bool true) ∧ Below w.heap.size w w' := by
  have b0 := albel w (.cells #[vs, vp] 25)
  go_enter Tryd.func3, Tryd.ntmps3
  go_wp2_with fail
  refine (szDisk_any vs vp ss ps _ (hs.below b0) (hp.below b0) hz hzp).mono ?_
  rintro e w1 ⟨r, rfl, hr, hb1⟩
  have b1 := bel2 b0 hb1
  have k1 := carry (heap_alloc_new w _) hb1
  obtain ⟨q0, q1, -, -⟩ := blk2 k1
  rcases hr with hr | ⟨hr0, n1, n2, n3, n4⟩
  · go_wp2
    go_ret
    exact ⟨rfl, b1⟩
  have hd : ¬ r < 0 := by omega
  obtain ⟨l, p, d, gn, kk, hl, hpl, hspec, himpl⟩ := both a1 a3 a5 a9 ss ps  n1 n2 hz hzp
  go_wp2_with fail
  refine (toDisk_any vs vp ss ps _ (hs.below b1) (hp.below b1) n1 n2).mono ?_
  rintro e w2 ⟨ta, tc, ta', tc', rfl, t2, hb2⟩
  have b2 := bel2 b1 hb2
  have k2 := carry k1 hb2
  clear q0 q1 hb1 k1 b0 b1 hb2 hr0
  go_wp2_with fail
  refine (hspec _ _ _ t2.1.strs t2.2.pends).mono ?_
  rintro e w3 ⟨oa, oc, oa', oc', rfl, o3, hb3⟩
  have RO := o3.rows
  have b3 := bel2 b2 hb3
  have k3 := carry k2 hb3
  have Z3 : Hid (w.heap.size ≤ w2.heap.size ∧ w2.heap.size ≤ w3.heap.size) := ⟨b2.size, hb3.size⟩
  clear t2 b2 k2 hb3
  obtain ⟨q0, q1, -, q9⟩ := blk2 k3
  have b3' := bel2 b3 (albel w3 (.cells #[.slice oa l.length oc, .slice oa' p.length oc', .string d, .int .i64 gn, .int .i64 kk] 31))
  go_wp2_with fail
  refine (toDisk_any vs vp ss ps _ (hs.below b3') (hp.below b3') n1 n2).mono ?_
  rintro e w4 ⟨xa, xc, xa', xc', rfl, x4, hb4⟩
  rw [asz] at x4
  have RX := x4.rows
  have b4 := bel2 b3' hb4
  have k4 := carry (carryA k3 _) hb4
  have j4 := carry (heap_alloc_new w3 _) hb4
  have Z4 : Hid (w3.heap.size < w4.heap.size) := lt_some j4
  have o4 := (o3.below (albel _ _)).below hb4
  clear q0 q1 q9 b3 b3' k3 o3 hb4
  have xw := x4.below (albel w4 (.cells #[.slice xa ss.length xc, .slice xa' ps.length xc'] 29))
  go_wp2_with fail
  refine (himpl _ _ _ (hS.below (bel2 b4 (albel _ _))) xw.1.strs xw.2.pends).mono ?_
  rintro e w5 ⟨ga, gc, ga', gc', rfl, g5, hb5⟩
  rw [asz] at g5
  have RG := g5.rows
  have b5 := bel2 (bel2 b4 (albel _ _)) hb5
  have k5 := carry (carryA k4 _) hb5
  have j5 := carry (carryA j4 _) hb5
  have i5 := carry (heap_alloc_new w4 _) hb5
  have ZZ : Hid (w.heap.size ≤ w2.heap.size ∧ w2.heap.size ≤ w3.heap.size ∧ w3.heap.size < w4.heap.size ∧ w4.heap.size < w5.heap.size) := ⟨Z3.out.1, Z3.out.2, Z4.out, lt_some i5⟩
  have o5 := (o4.below (albel _ _)).below hb5
  have x5 := xw.below hb5
  clear xw x4 o4 k4 j4 b4 hb5
  obtain ⟨s0, s1, s2, s3, s4, -, s9⟩ := blk5 j5
  have oo := o5.below (albel w5 (.cells #[.slice ga l.length gc, .slice ga' p.length gc', .string d, .int .i64 gn, .int .i64 kk] 31))
  have gg := g5.below (albel w5 (.cells #[.slice ga l.length gc, .slice ga' p.length gc', .string d, .int .i64 gn, .int .i64 kk] 31))
  go_wp2_with fail
  refine (eqArea_any _ _ _ _ d gn kk l p _ gg.1.strs gg.2.pends oo.1.strs oo.2.pends).mono ?_
  rintro e w6 ⟨rfl, hb6⟩
  have b6 := bel2 (bel2 b5 (albel _ _)) hb6
  have k6 := carry (carryA k5 _) hb6
  have j6 := carry (carryA j5 _) hb6
  have i6 := carry (carryA i5 _) hb6
  have h6 := carry (heap_alloc_new w5 _) hb6
  have o6 := oo.below hb6
  have x6 := (x5.below (albel _ _)).below hb6
  have g6 := gg.below hb6
  clear oo gg o5 x5 g5 k5 j5 i5 b5 hb6 s0 s1 s2 s3 s4 s9
  obtain ⟨q0, q1, -, -⟩ := blk2 k6
  obtain ⟨y0, y1, -, -⟩ := blk2 i6
  go_wp2_with fail
  go_region_held3 (fun w' => w'.cell? ⟨w.heap.size, 0, none⟩ = some vs ∧ w'.cell? ⟨w.heap.size, 1, none⟩ = some vp ∧ w'.cell? ⟨w4.heap.size, 0, none⟩ = some (.slice xa ss.length xc) ∧ w'.cell? ⟨w4.heap.size, 1, none⟩ = some (.slice xa' ps.length xc'))
    (first
      | exact keepX k6 i6 B8
      | exact keepX k6 i6 B7
      | exact keepX k6 i6 (Below.refl _ _).drew)
    (first
      | (go_at_call 7; refine (toDisk_any vs vp ss ps _ (hs.below b6.drew) (hp.below b6.drew) n1 n2).mono ?_; rintro e w7 ⟨za, zc, za', zc', rfl, z7, hb7'⟩; have B7 := undrew hb7'; have x7 := x6.below B7)
      | (go_at_call 10; refine (eqDisk_any _ _ _ _ ss ps _ x7.1.strs x7.2.pends z7.1.strs z7.2.pends).mono ?_; rintro e w8 ⟨rfl, hb8⟩; have B8 := bel2 B7 hb8))
  have b8 := bel2 b6 B8
  have k8 := carry k6 B8
  have j8 := carry j6 B8
  have i8 := carry i6 B8
  have h8 := carry h6 B8
  have o8 := o6.below B8
  have x8 := x6.below B8
  have g8 := g6.below B8
  clear q0 q1 y0 y1 k6 j6 i6 h6 o6 x6 g6 B7 B8 x7 z7 hb7' hb8 b6
  obtain ⟨y0, y1, -, -⟩ := blk2 i8
  go_wp2_with fail
  refine (markDisk_any (w3.heap.size + 1) 1 _ _ _ _ ss ps _ x8 (by omega) (by omega)).mono ?_
  rintro e w9 ⟨rfl, -, t9⟩
  have k9 := carryW k8 t9 (fun h => by have := ZZ.out; have := RX _ h; omega)
  have j9 := carryW j8 t9 (fun h => by have := ZZ.out; have := RX _ h; omega)
  have h9 := carryW h8 t9 (fun h => by have := ZZ.out; have := RX _ h; omega)
  have o9 := o8.wrote t9 (fun g h h' => by have := ZZ.out; have := RX _ h; have := RO _ h'; omega)
  have g9 := g8.wrote t9 (fun g h h' => by have := ZZ.out; have := RX _ h; have := RG _ h'; omega)
  have b9 := belW b8 t9 (fun g h => by have := ZZ.out; have := RX _ h; omega)
  clear y0 y1 k8 j8 i8 h8 o8 x8 g8 b8 t9
  have hd9 : ¬ ((1 + ss.length + ps.length * 2 : Nat) : Int) < 0 := by omega
  obtain ⟨s0, s1, s2, s3, s4, -, -⟩ := blk5 j9
  obtain ⟨v0, v1, v2, v3, v4, -, -⟩ := blk5 h9
  go_wp2_with fail
  refine (eqArea_any _ _ _ _ d gn kk l p _ g9.1.strs g9.2.pends o9.1.strs o9.2.pends).mono ?_
  rintro e w10 ⟨rfl, hb10⟩
  have b10 := bel2 b9 hb10
  have k10 := carry k9 hb10
  have j10 := carry j9 hb10
  have h10 := carry h9 hb10
  have o10 := o9.below hb10
  have g10 := g9.below hb10
  clear s0 s1 s2 s3 s4 v0 v1 v2 v3 v4 k9 j9 h9 o9 g9 b9 hb10
  obtain ⟨v0, v1, v2, v3, v4, -, -⟩ := blk5 h10
  go_wp2_with fail
  refine (markArea_any (w4.heap.size + 1) 1 _ _ _ _ d gn kk l p _ g10 (by omega) (by omega)).mono ?_
  rintro e w11 ⟨rfl, g11, t11⟩
  have k11 := carryW k10 t11 (fun h => by have := ZZ.out; have := RG _ h; omega)
  have j11 := carryW j10 t11 (fun h => by have := ZZ.out; have := RG _ h; omega)
  have h11 := carryW h10 t11 (fun h => by have := ZZ.out; have := RG _ h; omega)
  have o11 := o10.wrote t11 (fun g h h' => by have := ZZ.out; have := RG _ h; have := RO _ h'; omega)
  have b11 := belW b10 t11 (fun g h => by have := ZZ.out; have := RG _ h; omega)
  clear v0 v1 v2 v3 v4 k10 j10 h10 o10 g10 b10 t11
  obtain ⟨v0, v1, v2, v3, v4, -, -⟩ := blk5 h11
  go_wp2_with fail
  refine (heldArea_any 1 l.length p.length _ _ d gn kk _ g11.1.strs g11.2.pends (by omega) (by omega)).mono ?_
  rintro e w12 ⟨rfl, hb12⟩
  have b12 := bel2 b11 hb12
  have k12 := carry k11 hb12
  have j12 := carry j11 hb12
  have h12 := carry h11 hb12
  have o12 := o11.below hb12
  have g12 := g11.below hb12
  have hd12 : ¬ ((1 + l.length + p.length * 2 : Nat) : Int) < 0 := by omega
  clear v0 v1 v2 v3 v4 k11 j11 h11 o11 g11 b11 hb12
  obtain ⟨q0, q1, -, -⟩ := blk2 k12
  go_wp2_with fail
  refine (toDisk_any vs vp ss ps _ (hs.below b12) (hp.below b12) n1 n2).mono ?_
  rintro e w13 ⟨ua, uc, ua', uc', rfl, u13, hb13⟩
  have b13 := bel2 b12 hb13
  have j13 := carry j12 hb13
  have h13 := carry h12 hb13
  have o13 := o12.below hb13
  have g13 := g12.below hb13
  clear q0 q1 k12 j12 h12 o12 g12 b12 hb13
  go_wp2_with fail
  refine (himpl _ _ _ (hS.below b13) u13.1.strs u13.2.pends).mono ?_
  rintro e w14 ⟨fa, fc, fa', fc', rfl, f14, hb14⟩
  have b14 := bel2 b13 hb14
  have j14 := carry j13 hb14
  have h14 := carry h13 hb14
  have o14 := (o13.below hb14).below (albel w14 (.cells #[.slice fa l.length fc, .slice fa' p.length fc', .string d, .int .i64 gn, .int .i64 kk] 31))
  have g14 := (g13.below hb14).below (albel w14 (.cells #[.slice fa l.length fc, .slice fa' p.length fc', .string d, .int .i64 gn, .int .i64 kk] 31))
  have ff := f14.below (albel w14 (.cells #[.slice fa l.length fc, .slice fa' p.length fc', .string d, .int .i64 gn, .int .i64 kk] 31))
  clear j13 h13 o13 g13 b13 hb14 u13 f14
  obtain ⟨s0, s1, s2, s3, s4, -, s9⟩ := blk5 j14
  go_wp2_with fail
  refine (eqArea_any _ _ _ _ d gn kk l p _ ff.1.strs ff.2.pends o14.1.strs o14.2.pends).mono ?_
  rintro e w15 ⟨rfl, hb15⟩
  have b15 := bel2 (bel2 b14 (albel _ _)) hb15
  have h15 := carry (carryA h14 _) hb15
  have g15 := g14.below hb15
  clear s0 s1 s2 s3 s4 s9 j14 h14 o14 g14 ff b14 hb15
  obtain ⟨v0, v1, v2, v3, v4, -, -⟩ := blk5 h15
  go_wp2_with fail
  refine (heldArea_any 1 l.length p.length _ _ d gn kk _ g15.1.strs g15.2.pends (by omega) (by omega)).mono ?_
  rintro e w16 ⟨rfl, hb16⟩
  go_wp2
  go_ret
  exact ⟨rfl, bel2 b15 hb16⟩
end Go.Proofs.YtfiabbfdnmldjaaDoor.YAFormat
