/-
  The law's own comparing of disks, at disks that read alike: yes.
-/
import Derived.Test.YtoihhjdllcockaaT0
namespace Go.Proofs.Ytoihhjdllcockaa.S8
open Go.RowKit
open Go.Proofs.Ytoihhjdllcockaa.C0 Go.Proofs.Ytoihhjdllcockaa.S0 Go.Proofs.Ytoihhjdllcockaa.S1 Go.Proofs.Ytoihhjdllcockaa.S3 Go.Proofs.Ytoihhjdllcockaa.T0
open Go.Proofs.Ytoihhjdllcockaa.Dk (rightB)
set_option maxRecDepth 100000 in
set_option maxHeartbeats 800000 in
theorem lwTexts_any (v u : Value) (l : List ByteArray) (w : World) (hv : Strs w v l) (hu : Strs w u l) :
    Calls Try.prog 50 #[v, u] w fun e w' => e = .returned (.bool true) ∧ Below w.heap.size w w' := by
  obtain ⟨a, cap, rfl, hl, hc⟩ := hv
  obtain ⟨a2, cap2, rfl, _, hc2⟩ := hu
  unfold maxLen at hl
  have H0 : Hid (RelK l.length w (.int .i64 0) w) := ⟨0, Nat.zero_le _, rfl, Below.refl _ _⟩
  go_enter Try.func50, Try.ntmps50
  go_wp2
  go_loopw [5] (fun i wr => RelK l.length w i wr) (fun i _ => l.length - (intOf i).toNat)
  case atStart => exact H0.out
  case round =>
    clear H0
    obtain ⟨k, hk, rfl, hbel⟩ := hrel
    by_cases hlt : k < l.length
    · obtain ⟨b, off, rfl, hbb, hcc⟩ := hc (by omega)
      obtain ⟨b2, off2, rfl, hbb2, hcc2⟩ := hc2 (by omega)
      obtain ⟨s, hs⟩ : ∃ s, l[k]? = some s := ⟨_, List.getElem?_eq_getElem hlt⟩
      have c0 := hcc k s hs
      have c1 := hcc2 k s hs
      rw [← hbel.cell (p := ⟨b, off + k, none⟩) hbb] at c0
      rw [← hbel.cell (p := ⟨b2, off2 + k, none⟩) hbb2] at c1
      have hlt' : (k : Int) < (l.length : Int) := by omega
      clear hs hcc hcc2
      have HB : Hid (Below w.heap.size w wr) := hbel
      clear hbel
      go_wp2
      go_quiet (fail)
      go_wp2
      go_roundw
      case rel => exact ⟨k + 1, by omega, by go_num, drewN_below HB.out _⟩
      case measure => simp [intOf]; omega
    · go_wp2
      go_ret
      exact ⟨rfl, hbel⟩
def RelL (n : Nat) (W : World) (i : Value) (wr : World) : Prop := ∃ k : Nat, k ≤ n ∧ i = .int .i64 k ∧ Below W.heap.size W wr
set_option maxRecDepth 100000 in
set_option maxHeartbeats 1600000 in
theorem lwDisk_any (vs vp us up : Value) (ss : List ByteArray) (ps : List Pend) (w : World) (h1 : Strs w vs ss) (h2 : Pends w vp ps) (h3 : Strs w us ss) (h4 : Pends w up ps) :
    Calls Try.prog 18 #[.agg #[vs, vp], .agg #[us, up]] w fun e w' => e = .returned (.bool true) ∧ Below w.heap.size w w' := by
  obtain ⟨a, cap, rfl, hl, hc⟩ := h2
  obtain ⟨a2, cap2, rfl, _, hc2⟩ := h4
  unfold maxLen at hl
  have b0 : Below w.heap.size w ((w.alloc (.cells #[vs, .slice a ps.length cap] 26)).alloc (.cells #[us, .slice a2 ps.length cap2] 26)) := ((Below.refl _ _).alloc (Nat.le_refl _) _).alloc (by simp) _
  go_enter Try.func18, Try.ntmps18
  go_wp2_with fail
  refine (lwTexts_any _ _ ss _ (h1.below b0) (h3.below b0)).mono ?_
  rintro e w1 ⟨rfl, hb1⟩
  obtain ⟨k0, k1, z0, B1⟩ := C9.two_laid hb1
  have HB1 : Hid (Below w.heap.size w w1) := B1
  have q0 := (blk2 k0).1
  have q1 := (blk2 k0).2.1
  have q2 := (blk2 k1).1
  have q3 := (blk2 k1).2.1
  have H0 : Hid (RelL ps.length w1 (.int .i64 0) w1) := ⟨0, Nat.zero_le _, rfl, Below.refl _ _⟩
  clear hb1 b0 B1
  go_wp2
  clear q0 q1 q2 q3
  go_loopw [5] (fun i wr => RelL ps.length w1 i wr) (fun i _ => ps.length - (intOf i).toNat)
  case atStart => exact H0.out
  case round =>
    clear H0
    obtain ⟨k, hk, rfl, hB⟩ := hrel
    have e0 := (hB.block _ (by omega)).trans k0
    have e1 := (hB.block _ (by omega)).trans k1
    obtain ⟨q0, q1, -, -⟩ := blk2 e0
    obtain ⟨q2, q3, -, -⟩ := blk2 e1
    have B2 : Below w.heap.size w wr := HB1.out.trans (hB.mono HB1.out.size)
    clear e0 e1
    by_cases hlt : k < ps.length
    · obtain ⟨b, off, rfl, hbb, hcc⟩ := hc (by omega)
      obtain ⟨b2, off2, rfl, hbb2, hcc2⟩ := hc2 (by omega)
      obtain ⟨s, hs⟩ : ∃ s, ps[k]? = some s := ⟨_, List.getElem?_eq_getElem hlt⟩
      obtain ⟨c0, c1⟩ := hcc k s hs
      obtain ⟨c2, c3⟩ := hcc2 k s hs
      rw [← B2.cell (p := ⟨b, off + k * 2, none⟩) hbb] at c0
      rw [← B2.cell (p := ⟨b, off + k * 2 + 1, none⟩) hbb] at c1
      rw [← B2.cell (p := ⟨b2, off2 + k * 2, none⟩) hbb2] at c2
      rw [← B2.cell (p := ⟨b2, off2 + k * 2 + 1, none⟩) hbb2] at c3
      have hlt' : (k : Int) < (ps.length : Int) := by omega
      have HB : Hid (Below w1.heap.size w1 wr) := hB
      clear hs hcc hcc2 hB B2
      go_wp2
      go_quiet (fail)
      go_wp2
      go_roundw
      case rel => exact ⟨k + 1, by omega, by go_num, drewN_below HB.out _⟩
      case measure => simp [intOf]; omega
    · have HB2 : Hid (Below w.heap.size w wr) := B2
      clear hB B2
      go_wp2
      go_ret
      exact ⟨rfl, HB2.out⟩
set_option maxRecDepth 100000 in
set_option maxHeartbeats 1600000 in
theorem lwDisks_any (vs vp us up : Value) (d : ByteArray) (c : Int) (ss : List ByteArray) (ps : List Pend) (w : World) (h1 : Strs w vs ss) (h2 : Pends w vp ps) (h3 : Strs w us ss) (h4 : Pends w up ps) (hz : ∀ s ∈ ss, s.size ≤ maxLen) (hzp : ∀ p ∈ ps, p.2.size ≤ maxLen) (hR : c = 0 → rightB ss ps = true) :
    Calls Try.prog 16 #[.agg #[vs, vp, .string d, .int .i64 c], .agg #[us, up, .string d, .int .i64 c]] w fun e w' => e = .returned (.bool true) ∧ Below w.heap.size w w' := by
  have b0 : Below w.heap.size w ((w.alloc (.cells #[vs, vp, .string d, .int .i64 c] 30)).alloc (.cells #[us, up, .string d, .int .i64 c] 30)) := ((Below.refl _ _).alloc (Nat.le_refl _) _).alloc (by simp) _
  by_cases hc : c = 0
  · have hR' := hR hc
    subst hc
    go_enter Try.func16, Try.ntmps16
    go_wp2_with fail
    refine (lwDisk_any _ _ _ _ ss ps _ (h1.below b0) (h2.below b0) (h3.below b0) (h4.below b0)).mono ?_
    rintro e w1 ⟨rfl, hb1⟩
    obtain ⟨k0, k1, z0, B1⟩ := C9.two_laid hb1
    obtain ⟨q0, q1, q2, q3, -, -⟩ := blk4 k0
    clear hb1
    go_wp2_with fail
    refine (right_spec _ _ ss ps _ (h1.below B1) (h2.below B1) hz hzp).mono ?_
    rintro e w2 ⟨rfl, hb2⟩
    rw [hR']
    go_wp2
    go_ret
    exact ⟨rfl, B1.trans (hb2.mono B1.size)⟩
  · have hc' : (c == 0) = false := by simpa using hc
    have hc2 : (c != 0) = true := by simpa using hc
    have hc3 : decide (c = 0) = false := by simpa using hc
    go_enter Try.func16, Try.ntmps16
    go_wp2_with fail
    refine (lwDisk_any _ _ _ _ ss ps _ (h1.below b0) (h2.below b0) (h3.below b0) (h4.below b0)).mono ?_
    rintro e w1 ⟨rfl, hb1⟩
    obtain ⟨k0, k1, z0, B1⟩ := C9.two_laid hb1
    obtain ⟨q0, q1, q2, q3, -, -⟩ := blk4 k0
    clear hb1
    go_wp2
    go_ret
    exact ⟨rfl, B1⟩
end Go.Proofs.Ytoihhjdllcockaa.S8
