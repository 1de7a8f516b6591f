/-
  The laws' own marks in whole disks: laid, and looked for.
-/
import Derived.Test.YtfiabbfdnmldjaaDoorS5
namespace Go.Proofs.YtfiabbfdnmldjaaDoor.S6
open Go.RowKit
open Go.Proofs.YtfiabbfdnmldjaaDoor.C0 Go.Proofs.YtfiabbfdnmldjaaDoor.S0 Go.Proofs.YtfiabbfdnmldjaaDoor.S1 Go.Proofs.YtfiabbfdnmldjaaDoor.Mk Go.Proofs.YtfiabbfdnmldjaaDoor.S4 Go.Proofs.YtfiabbfdnmldjaaDoor.S3 Go.Proofs.YtfiabbfdnmldjaaDoor.S5

def RelI (k n : Nat) (w : World) (q i : Value) (wr : World) : Prop := ∃ j : Nat, j ≤ n ∧ i = .int .i64 j ∧ q = .int .i64 ((k + j * 2 : Nat) : Int) ∧ Below w.heap.size w wr
set_option maxRecDepth 100000 in
set_option maxHeartbeats 1600000 in
theorem heldPends_any (k n : Nat) (v : Value) (w : World) (hv : Pends w v (marksP k n)) (h1 : 0 < k) (h2 : k + n * 2 < 10000000) :
    Calls Tryd.prog 55 #[v, .int .i64 k] w fun e w' => e = .returned (.int .i64 ((k + n * 2 : Nat) : Int)) ∧ Below w.heap.size w w' := by
  have H0 : Hid (RelI k n w (.int .i64 k) (.int .i64 0) w) := ⟨0, Nat.zero_le _, rfl, by simp, Below.refl _ _⟩
  obtain ⟨a, cap, rfl, hl, hc⟩ := hv
  rw [marksP_length] at hc hl ⊢
  go_enter Tryd.func55, Tryd.ntmps55
  go_wp2
  go_loopw [1, 5] (fun q i wr => RelI k n w q i wr) (fun _ i _ => n - (intOf i).toNat)
  case atStart => exact H0.out
  case round =>
    clear H0
    obtain ⟨j, hj, rfl, rfl, hbel⟩ := hrel
    by_cases hlt : j < n
    · obtain ⟨b, off, rfl, hbb, hcc⟩ := hc (by omega)
      have hlt' : (j : Int) < (n : Int) := by omega
      obtain ⟨c0, c1⟩ := hcc j _ (marksP_at n k j hlt)
      rw [← hbel.cell (p := ⟨b, off + j * 2, none⟩) hbb] at c0
      rw [← hbel.cell (p := ⟨b, off + j * 2 + 1, none⟩) hbb] at c1
      obtain ⟨x, hx⟩ : ∃ x, k + j * 2 = x := ⟨_, rfl⟩
      have HX : Hid (k + j * 2 = x) := hx
      have hxb : x < 10000000 := by omega
      have hx0 : 0 < x := by omega
      dsimp only at c0 c1
      rw [hx] at c0 c1 ⊢
      have HB : Hid (Below w.heap.size w wr) := hbel
      have HC : Hid (∀ w1, Below wr.heap.size wr w1 → w1.cell? ⟨b, off + j * 2 + 1, none⟩ = some (.string (markOf (x + 1)))) := fun w1 h => by
        rw [h.cell (p := ⟨b, off + j * 2 + 1, none⟩) (by have := hbel.size; show b < _; omega)]; exact c1
      clear hcc hx hbel
      go_wp2
      go_region_with (go_at_call 53; refine (markText_any (x + 1) _ (by omega) (by omega)).mono ?_; rintro e w1 ⟨rfl, hb1⟩; have c2 := HC.out w1 ⟨hb1.os, hb1.tape, hb1.output, hb1.size, hb1.block⟩)
      all_goals
        go_wp2
        go_roundw
        case rel => exact ⟨j + 1, by omega, by go_num, by have := HX.out; have e1 : (x : Int) + 1 + 1 = ((k + (j + 1) * 2 : Nat) : Int) := (by omega); rw [e1], HB.out.drew.trans (hb1.mono HB.out.size)⟩
        case measure => simp [intOf]; omega
    · obtain rfl : j = n := by omega
      have HB : Hid (Below w.heap.size w wr) := hbel
      clear hbel
      go_wp2
      go_ret
      exact ⟨rfl, HB.out⟩

set_option maxRecDepth 100000 in
set_option maxHeartbeats 800000 in
theorem heldDisk_any (k n m : Nat) (vs vp : Value) (w : World) (hs : Strs w vs (marksS k n)) (hp : Pends w vp (marksP (k + n) m)) (h1 : 0 < k) (h2 : k + n + m * 2 < 10000000) :
    Calls Tryd.prog 31 #[.agg #[vs, vp], .int .i64 k] w fun e w' => e = .returned (.int .i64 ((k + n + m * 2 : Nat) : Int)) ∧ Below w.heap.size w w' := by
  have hal : ∀ o : Obj, Below w.heap.size w (w.alloc o) := fun o => (Below.refl _ _).alloc (Nat.le_refl _) _
  go_enter Tryd.func31, Tryd.ntmps31
  go_wp2_with (first
    | (go_at_call 54; refine (heldStrs_any k n _ _ (hs.below (hal _)) h1 (by omega)).mono ?_; rintro e w1 ⟨rfl, hb1⟩; obtain ⟨hc1, hf1⟩ := bcell hb1; have hB1 : Below w.heap.size w w1 := (hal _).trans (hb1.mono (hal _).size); have hd1 : ¬ ((k + n : Nat) : Int) < 0 := (by omega))
    | (go_at_call 55; refine (heldPends_any (k + n) m _ _ (hp.below hB1) (by omega) (by omega)).mono ?_; rintro e w2 ⟨rfl, hb2⟩; have hd2 : ¬ ((k + n + m * 2 : Nat) : Int) < 0 := (by omega)))
  go_ret
  exact ⟨rfl, hB1.trans (hb2.mono hB1.size)⟩

abbrev mines (vs vp : Value) : Nat → Prop := fun g => vs.ownBlock = some g ∨ vp.ownBlock = some g
set_option maxRecDepth 100000 in
set_option maxHeartbeats 800000 in
theorem markDisk_any (B k : Nat) (a a' : Option Addr) (cap cap' : Nat) (ss : List ByteArray) (ps : List Pend) (w : World) (hv : ODisk B w (.slice a ss.length cap) (.slice a' ps.length cap') ss ps) (h1 : 0 < k) (h2 : k + ss.length + ps.length * 2 < 10000000) :
    Calls Tryd.prog 11 #[.agg #[.slice a ss.length cap, .slice a' ps.length cap'], .int .i64 k] w fun e w' => e = .returned (.int .i64 ((k + ss.length + ps.length * 2 : Nat) : Int)) ∧
      ODisk B w' (.slice a ss.length cap) (.slice a' ps.length cap') (marksS k ss.length) (marksP (k + ss.length) ps.length) ∧ Wrote (mines (.slice a ss.length cap) (.slice a' ps.length cap')) w w' := by
  have hal : ∀ o : Obj, Below w.heap.size w (w.alloc o) := fun o => (Below.refl _ _).alloc (Nat.le_refl _) _
  have hap := own_apart hv.1 hv.2
  have hlt1 := hv.1.lt
  have hlt2 := hv.2.lt
  go_enter Tryd.func11, Tryd.ntmps11
  go_wp2_with (first
    | (go_at_call 29; refine (markStrs_any B k _ _ ss _ (hv.1.below (hal _)) h1 (by omega)).mono ?_; rintro e w1 ⟨rfl, ho1, ht1⟩; have hbk : w1.heap[w.heap.size]? = some (.cells #[.slice a ss.length cap, .slice a' ps.length cap'] 29) := ((ht1.block w.heap.size (by simp) (fun h => by have := (hlt1 _ h).2; omega)).trans (Go.Deep.blk_alloc_new _ _)); obtain ⟨q0, q1, -, -⟩ := blk2 hbk; clear hbk)
    | (go_at_call 30; refine (markPends_any B (k + ss.length) _ _ ps _ ((hv.2.below (hal _)).touch ht1 (fun g h h' => hap g h' h)) (by omega) (by omega)).mono ?_; rintro e w2 ⟨rfl, ho2, ht2⟩))
  go_ret
  refine ⟨rfl, ⟨ho1.touch ht2 (fun g h h' => hap g h h'), ho2⟩, ?_⟩
  exact ((Wrote.of_below (hal _)).trans (ht1.mono (fun g h => .inl h))).trans (ht2.mono (fun g h => .inr h))
end Go.Proofs.YtfiabbfdnmldjaaDoor.S6
