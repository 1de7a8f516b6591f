/-
  The law on DiskCrash, walked.
-/
import Derived.Test.YtoihhjdllcockabO1
import Derived.Test.YtoihhjdllcockabTD
import Derived.Test.YtoihhjdllcockabS7
import Derived.Deep.RegionHeld3
namespace Go.Proofs.Ytoihhjdllcockab.YDCrash
open Go.RowKit
open Go.Proofs.Ytoihhjdllcockab.C0 Go.Proofs.Ytoihhjdllcockab.S0 Go.Proofs.Ytoihhjdllcockab.S1 Go.Proofs.Ytoihhjdllcockab.S2 Go.Proofs.Ytoihhjdllcockab.S3 Go.Proofs.Ytoihhjdllcockab.S4 Go.Proofs.Ytoihhjdllcockab.S6 Go.Proofs.Ytoihhjdllcockab.S7 Go.Proofs.Ytoihhjdllcockab.O1 Go.Proofs.Ytoihhjdllcockab.T2 Go.Proofs.Ytoihhjdllcockab.T4 Go.Proofs.Ytoihhjdllcockab.TC Go.Proofs.Ytoihhjdllcockab.Mk
theorem both (ss : List ByteArray) (ps : List Pend) (keep : List Int) (n1 : ss.length ≤ 1048576) (n2 : ps.length ≤ 1048576) (hz : ∀ s ∈ ss, s.size ≤ maxLen) (hzp : ∀ p ∈ ps, p.2.size ≤ maxLen) :
    ∃ (l : List ByteArray) (p : List Pend), l.length ≤ 1048576 ∧ p.length ≤ 1048577 ∧
      (∀ vs vp vk w, Strs w vs ss → Pends w vp ps → Ints w vk keep → Calls Try.prog 5 #[.agg #[vs, vp], vk] w fun e w' => DTold w l p e w') ∧
      ∀ vs vp vk w, Strs w vs ss → Pends w vp ps → Ints w vk keep → Calls Try.prog 8 #[.agg #[vs, vp], vk] w fun e w' => DTold w l p e w' := by
  refine ⟨_, _, ?_, ?_, fun vs vp vk w h1 h2 h3 => TC.crash_spec vs vp vk ss ps keep w h1 h2 h3 hz hzp n1 n2, fun vs vp vk w h1 h2 h3 => TD.crash_impl vs vp vk ss ps keep w h1 h2 h3 hz hzp n1 n2⟩
  · unfold Dk.crashR
    split
    · simp
    · split
      · exact n1
      · show (Dk.crashTo ss ps keep ps.length).length ≤ _
        rw [Dk.crashTo_length]; exact n1
  · unfold Dk.crashR
    split
    · simp
    · split
      · exact Nat.le_succ_of_le n2
      · simp
theorem keepX {w6 w' : World} {g g' : Nat} {a b c d : Value} {T U : TypeId} (k : w6.heap[g]? = some (.cells #[a, b] T)) (i : w6.heap[g']? = some (.cells #[c, d] U)) (h : Below w6.heap.size w6 w') :
    w'.cell? ⟨g, 0, none⟩ = some a ∧ w'.cell? ⟨g, 1, none⟩ = some b ∧ w'.cell? ⟨g', 0, none⟩ = some c ∧ w'.cell? ⟨g', 1, none⟩ = some d :=
  ⟨(blk2 (carry k h)).1, (blk2 (carry k h)).2.1, (blk2 (carry i h)).1, (blk2 (carry i h)).2.1⟩
set_option maxRecDepth 100000 in
set_option maxHeartbeats 4000000 in
theorem walk (vs vp : Value) (ss : List ByteArray) (ps : List Pend) (vk : Value) (keep : List Int) (w : World) (hs : Strs w vs ss) (hp : Pends w vp ps) (hz : ∀ s ∈ ss, s.size ≤ maxLen) (hzp : ∀ p ∈ ps, p.2.size ≤ maxLen) (hk : Ints w vk keep) :
    Calls Try.prog 3 #[.agg #[vs, vp], vk] w fun e w' => e = .returned (.bool true) ∧ Below w.heap.size w w' := by
  obtain ⟨ka, kc, rfl⟩ : ∃ a c, vk = .slice a keep.length c := by obtain ⟨a, c, e, _⟩ := hk; exact ⟨a, c, e⟩
  by_cases gk : 1048576 < keep.length
  · have gk' : (1048576 : Int) < (keep.length : Int) := by omega
    go_enter Try.func3, Try.ntmps3
    go_wp2
    go_ret
    exact ⟨rfl, albel _ _⟩
  have gk' : ¬ (1048576 : Int) < (keep.length : Int) := by omega
  have nk : keep.length ≤ 1048576 := by omega
  have b0 := albel w (.cells #[vs, vp] 25)
  go_enter Try.func3, Try.ntmps3
  go_wp2_with fail
  refine (szDisk_any vs vp ss ps _ (hs.below b0) (hp.below b0) hz hzp).mono ?_
  rintro e w1 ⟨r, rfl, hr, hb1⟩
  have b1 := bel2 b0 hb1
  have k1 := carry (heap_alloc_new w _) hb1
  obtain ⟨q0, q1, -, -⟩ := blk2 k1
  rcases hr with hr | ⟨hr0, n1, n2, n3, n4⟩
  · go_wp2
    go_ret
    exact ⟨rfl, b1⟩
  have hd : ¬ r < 0 := by omega
  obtain ⟨l, p, hl, hpl, hspec, himpl⟩ := both ss ps keep n1 n2 hz hzp
  go_wp2_with fail
  refine (toDisk_any vs vp ss ps _ (hs.below b1) (hp.below b1) n1 n2).mono ?_
  rintro e wt ⟨ta, tc, ta', tc', rfl, t2, hbt⟩
  have bt := bel2 b1 hbt
  have kt := carry k1 hbt
  clear q0 q1 hb1 k1 b0 b1 hbt hr0
  go_wp2_with fail
  refine (toInts_any _ keep _ (hk.below bt) nk).mono ?_
  rintro e w2 ⟨ia, ic, rfl, i2, hb2⟩
  have b2 := bel2 bt hb2
  have k2 := carry kt hb2
  have t2' := t2.below hb2
  clear bt kt hb2 t2
  go_wp2_with fail
  refine (hspec _ _ _ _ t2'.1.strs t2'.2.pends i2.ints).mono ?_
  rintro e w3 ⟨oa, oc, oa', oc', rfl, o3, hb3⟩
  have RO := o3.rows
  have b3 := bel2 b2 hb3
  have k3 := carry k2 hb3
  have Z3 : Hid (w.heap.size ≤ w2.heap.size ∧ w2.heap.size ≤ w3.heap.size) := ⟨b2.size, hb3.size⟩
  clear t2' i2 b2 k2 hb3
  obtain ⟨q0, q1, -, q9⟩ := blk2 k3
  have b3' := bel2 b3 (albel w3 (.cells #[.slice oa l.length oc, .slice oa' p.length oc'] 30))
  go_wp2_with fail
  refine (toDisk_any vs vp ss ps _ (hs.below b3') (hp.below b3') n1 n2).mono ?_
  rintro e w4 ⟨xa, xc, xa', xc', rfl, x4, hb4⟩
  rw [asz] at x4
  have RX := x4.rows
  have b4 := bel2 b3' hb4
  have k4 := carry (carryA k3 _) hb4
  have j4 := carry (heap_alloc_new w3 _) hb4
  have Z4 : Hid (w3.heap.size < w4.heap.size) := lt_some j4
  have o4 := (o3.below (albel _ _)).below hb4
  clear q0 q1 q9 b3 b3' k3 o3 hb4
  have xw := x4.below (albel w4 (.cells #[.slice xa ss.length xc, .slice xa' ps.length xc'] 30))
  have b4' := bel2 b4 (albel w4 (.cells #[.slice xa ss.length xc, .slice xa' ps.length xc'] 30))
  go_wp2_with fail
  refine (toInts_any _ keep _ (hk.below b4') nk).mono ?_
  rintro e wi ⟨ya, yc, rfl, y4, hbi⟩
  have RY : ∀ g, (Value.slice ya keep.length yc).ownBlock = some g → w4.heap.size + 1 ≤ g ∧ g < wi.heap.size := fun g h => by have := y4.lt g h; rw [asz] at this; exact this
  have bi := bel2 b4' hbi
  have ki := carry (carryA k4 _) hbi
  have ji := carry (carryA j4 _) hbi
  have ii := carry (heap_alloc_new w4 _) hbi
  have oi := (o4.below (albel _ _)).below hbi
  have xi := xw.below hbi
  have Zi : Hid (w4.heap.size < wi.heap.size) := lt_some ii
  clear xw x4 o4 k4 j4 b4 b4' hbi
  obtain ⟨y0, y1, -, -⟩ := blk2 ii
  go_wp2_with fail
  refine (himpl _ _ _ _ xi.1.strs xi.2.pends y4.ints).mono ?_
  rintro e w5 ⟨ga, gc, ga', gc', rfl, g5, hb5⟩
  have RG := g5.rows
  have b5 := bel2 bi hb5
  have k5 := carry ki hb5
  have j5 := carry ji hb5
  have i5 := carry ii hb5
  have ZZ : Hid (w.heap.size ≤ w2.heap.size ∧ w2.heap.size ≤ w3.heap.size ∧ w3.heap.size < w4.heap.size ∧ w4.heap.size < wi.heap.size ∧ wi.heap.size ≤ w5.heap.size) := ⟨Z3.out.1, Z3.out.2, Z4.out, Zi.out, hb5.size⟩
  have o5 := oi.below hb5
  have x5 := xi.below hb5
  have y5 := y4.below hb5
  clear y0 y1 xi oi y4 ki ji ii bi hb5
  obtain ⟨s0, s1, -, s9⟩ := blk2 j5
  have oo := o5.below (albel w5 (.cells #[.slice ga l.length gc, .slice ga' p.length gc'] 30))
  have gg := g5.below (albel w5 (.cells #[.slice ga l.length gc, .slice ga' p.length gc'] 30))
  go_wp2_with fail
  refine (eqDisk_any _ _ _ _ l p _ gg.1.strs gg.2.pends oo.1.strs oo.2.pends).mono ?_
  rintro e w6 ⟨rfl, hb6⟩
  have b6 := bel2 (bel2 b5 (albel _ _)) hb6
  have k6 := carry (carryA k5 _) hb6
  have j6 := carry (carryA j5 _) hb6
  have i6 := carry (carryA i5 _) hb6
  have h6 := carry (heap_alloc_new w5 _) hb6
  have o6 := oo.below hb6
  have x6 := (x5.below (albel _ _)).below hb6
  have y6 := (y5.below (albel _ _)).below hb6
  have g6 := gg.below hb6
  clear oo gg o5 x5 y5 g5 k5 j5 i5 b5 hb6 s0 s1 s9
  obtain ⟨q0, q1, -, -⟩ := blk2 k6
  obtain ⟨y0, y1, -, -⟩ := blk2 i6
  go_wp2_with fail
  go_region_held3 (fun w' => w'.cell? ⟨w.heap.size, 0, none⟩ = some vs ∧ w'.cell? ⟨w.heap.size, 1, none⟩ = some vp ∧ w'.cell? ⟨w4.heap.size, 0, none⟩ = some (.slice xa ss.length xc) ∧ w'.cell? ⟨w4.heap.size, 1, none⟩ = some (.slice xa' ps.length xc'))
    (first
      | exact keepX k6 i6 B8
      | exact keepX k6 i6 B7
      | exact keepX k6 i6 (Below.refl _ _).drew)
    (first
      | (go_at_call 6; refine (toDisk_any vs vp ss ps _ (hs.below b6.drew) (hp.below b6.drew) n1 n2).mono ?_; rintro e w7 ⟨za, zc, za', zc', rfl, z7, hb7'⟩; have B7 := undrew hb7'; have x7 := x6.below B7)
      | (go_at_call 9; refine (eqDisk_any _ _ _ _ ss ps _ x7.1.strs x7.2.pends z7.1.strs z7.2.pends).mono ?_; rintro e w8 ⟨rfl, hb8⟩; have B8 := bel2 B7 hb8))
  have b8 := bel2 b6 B8
  have k8 := carry k6 B8
  have j8 := carry j6 B8
  have i8 := carry i6 B8
  have h8 := carry h6 B8
  have o8 := o6.below B8
  have x8 := x6.below B8
  have y8 := y6.below B8
  have g8 := g6.below B8
  clear q0 q1 y0 y1 k6 j6 i6 h6 o6 x6 y6 g6 B7 B8 x7 z7 hb7' hb8 b6
  go_wp2_with fail
  refine (toInts_any _ keep _ (hk.below b8) nk).mono ?_
  rintro e wa ⟨ea, ec, rfl, ei, hba⟩
  have ba := bel2 b8 hba
  have yq := y8.below hba
  go_wp2_with fail
  refine (eqInts_any _ _ keep _ yq.ints ei.ints).mono ?_
  rintro e wb ⟨rfl, hbb⟩
  have hab := bel2 hba hbb
  have bb := bel2 b8 hab
  have kb := carry k8 hab
  have jb := carry j8 hab
  have ib := carry i8 hab
  have hb := carry h8 hab
  have ob := o8.below hab
  have xb := x8.below hab
  have yb := y8.below hab
  have gb := g8.below hab
  clear b8 k8 j8 i8 h8 o8 x8 y8 g8 ba yq ei hba hbb hab
  obtain ⟨y0, y1, -, -⟩ := blk2 ib
  go_wp2_with fail
  refine (markDisk_any (w3.heap.size + 1) 1 _ _ _ _ ss ps _ xb (by omega) (by omega)).mono ?_
  rintro e w9 ⟨rfl, -, t9⟩
  have k9 := carryW kb t9 (fun h => by have := ZZ.out; have := RX _ h; omega)
  have j9 := carryW jb t9 (fun h => by have := ZZ.out; have := RX _ h; omega)
  have h9 := carryW hb t9 (fun h => by have := ZZ.out; have := RX _ h; omega)
  have o9 := ob.wrote t9 (fun g h h' => by have := ZZ.out; have := RX _ h; have := RO _ h'; omega)
  have g9 := gb.wrote t9 (fun g h h' => by have := ZZ.out; have := RX _ h; have := RG _ h'; omega)
  have y9 := yb.touch t9 (fun g h h' => by have := ZZ.out; have := RX _ h'; have := RY _ h; omega)
  have b9 := belW bb t9 (fun g h => by have := ZZ.out; have := RX _ h; omega)
  clear y0 y1 kb jb ib hb ob xb yb gb bb t9
  go_wp2_with fail
  refine (markInts_any (w4.heap.size + 1) (1 + ss.length + ps.length * 2) _ _ keep _ (by have := y9; rw [asz] at this; exact this) (by omega) (by omega)).mono ?_
  rintro e w9b ⟨rfl, t9b⟩
  have kj := carryW k9 t9b (fun h => by have := ZZ.out; have := RY _ h; omega)
  have jj := carryW j9 t9b (fun h => by have := ZZ.out; have := RY _ h; omega)
  have hj := carryW h9 t9b (fun h => by have := ZZ.out; have := RY _ h; omega)
  have oj := o9.wrote t9b (fun g h h' => by have := ZZ.out; have := RY _ h; have := RO _ h'; omega)
  have gj := g9.wrote t9b (fun g h h' => by have := ZZ.out; have := RY _ h; have := RG _ h'; omega)
  have bj := belW b9 t9b (fun g h => by have := ZZ.out; have := RY _ h; omega)
  clear k9 j9 h9 o9 g9 y9 b9 t9b
  have hd9 : ¬ ((1 + ss.length + ps.length * 2 + keep.length : Nat) : Int) < 0 := by omega
  obtain ⟨s0, s1, -, -⟩ := blk2 jj
  obtain ⟨v0, v1, -, -⟩ := blk2 hj
  go_wp2_with fail
  refine (eqDisk_any _ _ _ _ l p _ gj.1.strs gj.2.pends oj.1.strs oj.2.pends).mono ?_
  rintro e w10 ⟨rfl, hb10⟩
  have b10 := bel2 bj hb10
  have k10 := carry kj hb10
  have j10 := carry jj hb10
  have h10 := carry hj hb10
  have o10 := oj.below hb10
  have g10 := gj.below hb10
  clear s0 s1 v0 v1 kj jj hj oj gj bj hb10
  obtain ⟨v0, v1, -, -⟩ := blk2 h10
  go_wp2_with fail
  refine (markDisk_any wi.heap.size 1 _ _ _ _ l p _ g10 (by omega) (by omega)).mono ?_
  rintro e w11 ⟨rfl, g11, t11⟩
  have k11 := carryW k10 t11 (fun h => by have := ZZ.out; have := RG _ h; omega)
  have j11 := carryW j10 t11 (fun h => by have := ZZ.out; have := RG _ h; omega)
  have h11 := carryW h10 t11 (fun h => by have := ZZ.out; have := RG _ h; omega)
  have o11 := o10.wrote t11 (fun g h h' => by have := ZZ.out; have := RG _ h; have := RO _ h'; omega)
  have b11 := belW b10 t11 (fun g h => by have := ZZ.out; have := RG _ h; omega)
  clear v0 v1 k10 j10 h10 o10 g10 b10 t11
  obtain ⟨v0, v1, -, -⟩ := blk2 h11
  go_wp2_with fail
  refine (heldDisk_any 1 l.length p.length _ _ _ g11.1.strs g11.2.pends (by omega) (by omega)).mono ?_
  rintro e w12 ⟨rfl, hb12⟩
  have b12 := bel2 b11 hb12
  have k12 := carry k11 hb12
  have j12 := carry j11 hb12
  have h12 := carry h11 hb12
  have o12 := o11.below hb12
  have g12 := g11.below hb12
  have hd12 : ¬ ((1 + l.length + p.length * 2 : Nat) : Int) < 0 := by omega
  clear v0 v1 k11 j11 h11 o11 g11 b11 hb12
  obtain ⟨q0, q1, -, -⟩ := blk2 k12
  go_wp2_with fail
  refine (toDisk_any vs vp ss ps _ (hs.below b12) (hp.below b12) n1 n2).mono ?_
  rintro e wc ⟨ua, uc, ua', uc', rfl, uc13, hbc⟩
  have bc := bel2 b12 hbc
  go_wp2_with fail
  refine (toInts_any _ keep _ (hk.below bc) nk).mono ?_
  rintro e w13 ⟨va, vc, rfl, vi, hbd⟩
  have hb13 := bel2 hbc hbd
  have b13 := bel2 b12 hb13
  have u13 := uc13.below hbd
  have j13 := carry j12 hb13
  have h13 := carry h12 hb13
  have o13 := o12.below hb13
  have g13 := g12.below hb13
  clear q0 q1 k12 j12 h12 o12 g12 b12 hb13 hbc hbd uc13 bc
  go_wp2_with fail
  refine (himpl _ _ _ _ u13.1.strs u13.2.pends vi.ints).mono ?_
  rintro e w14 ⟨fa, fc, fa', fc', rfl, f14, hb14⟩
  have b14 := bel2 b13 hb14
  have j14 := carry j13 hb14
  have h14 := carry h13 hb14
  have o14 := (o13.below hb14).below (albel w14 (.cells #[.slice fa l.length fc, .slice fa' p.length fc'] 30))
  have g14 := (g13.below hb14).below (albel w14 (.cells #[.slice fa l.length fc, .slice fa' p.length fc'] 30))
  have ff := f14.below (albel w14 (.cells #[.slice fa l.length fc, .slice fa' p.length fc'] 30))
  clear j13 h13 o13 g13 b13 hb14 u13 f14 vi
  obtain ⟨s0, s1, -, s9⟩ := blk2 j14
  go_wp2_with fail
  refine (eqDisk_any _ _ _ _ l p _ ff.1.strs ff.2.pends o14.1.strs o14.2.pends).mono ?_
  rintro e w15 ⟨rfl, hb15⟩
  have b15 := bel2 (bel2 b14 (albel _ _)) hb15
  have h15 := carry (carryA h14 _) hb15
  have g15 := g14.below hb15
  clear s0 s1 s9 j14 h14 o14 g14 ff b14 hb15
  obtain ⟨v0, v1, -, -⟩ := blk2 h15
  go_wp2_with fail
  refine (heldDisk_any 1 l.length p.length _ _ _ g15.1.strs g15.2.pends (by omega) (by omega)).mono ?_
  rintro e w16 ⟨rfl, hb16⟩
  go_wp2
  go_ret
  exact ⟨rfl, bel2 b15 hb16⟩
end Go.Proofs.Ytoihhjdllcockab.YDCrash
