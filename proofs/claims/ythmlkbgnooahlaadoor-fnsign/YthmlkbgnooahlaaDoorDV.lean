/-
  The draws of stage 5: a number and a text to hash, a secret, what is signed, a signature.
-/
import Derived.Test.YthmlkbgnooahlaaDoorDU
import Derived.Deep.RegionWith
namespace Go.Proofs.YthmlkbgnooahlaaDoor.DV
open Go.RowKit
open Go.Proofs.YthmlkbgnooahlaaDoor.C0 Go.Proofs.YthmlkbgnooahlaaDoor.D0 Go.Proofs.YthmlkbgnooahlaaDoor.HB Go.Proofs.YthmlkbgnooahlaaDoor.DS Go.Proofs.YthmlkbgnooahlaaDoor.DT Go.Proofs.YthmlkbgnooahlaaDoor.DU
open Go.Proofs.YthmlkbgnooahlaaDoor.G3 (sig)

theorem public_draw (v : Value) (n : Nat) (w : World) (hc : IsCode w.heap.size w v n) :
    Calls Tryd.prog 11 #[v] w fun e w' => ∃ z : Int, e = .returned (.int .i64 z) ∧ -1 ≤ z ∧ z ≤ 5003 ∧ Below w.heap.size w w' := by
  go_enter Tryd.func11, Tryd.ntmps11
  go_wp2_with fail
  refine (drawSource v n _ hc).mono ?_
  rintro e w1 ⟨rfl, d1, b1⟩
  go_wp2_with fail
  refine (secret_draw d1).mono ?_
  rintro e w2 ⟨z, rfl, z1, z2, d2, g2⟩
  have z0 := b1.size
  go_wp2
  go_ret
  exact ⟨z, rfl, z1, z2, b1.trans (grown_below g2 (Nat.le_refl _) z0)⟩

theorem sign_draw (v : Value) (n : Nat) (w : World) (hc : IsCode w.heap.size w v n) :
    Calls Tryd.prog 8 #[v] w fun e w' => ∃ (z : Int) (t : ByteArray), e = .returned (.tuple #[.int .i64 z, .string t]) ∧ -1 ≤ z ∧ z ≤ 5003 ∧ t.size ≤ 8 ∧ Below w.heap.size w w' := by
  go_enter Tryd.func8, Tryd.ntmps8
  go_wp2_with fail
  refine (drawSource v n _ hc).mono ?_
  rintro e w1 ⟨rfl, d1, b1⟩
  go_wp2_with fail
  refine (secret_draw d1).mono ?_
  rintro e w2 ⟨z, rfl, z1, z2, d2, g2⟩
  go_wp2_with fail
  refine (text_draw d2).mono ?_
  rintro e w3 ⟨t, rfl, ht, d3, g3⟩
  have z0 := b1.size
  go_wp2
  go_ret2
  exact ⟨z, t, rfl, z1, z2, ht, b1.trans (grown_below (grown_trans g2 g3) (Nat.le_refl _) z0)⟩

set_option maxRecDepth 100000 in
theorem right_draw (v : Value) (n : Nat) (w : World) (hc : IsCode w.heap.size w v n) :
    Calls Tryd.prog 12 #[v] w fun e w' => ∃ a b : Int, e = .returned (sig a b) ∧ ok64 a ∧ ok64 b ∧ Below w.heap.size w w' := by
  have k0 := heap_alloc_new w (.cells #[.int .i64 0, .int .i64 0] 30)
  go_enter Tryd.func12, Tryd.ntmps12
  go_wp2_with fail
  refine (sourceA v n w _ hc).mono ?_
  rintro e w1 ⟨rfl, d1, b1⟩
  go_wp2_with fail
  refine (sig_draw d1).mono ?_
  rintro e w2 ⟨a, b, rfl, ha, hb, d2, g2⟩
  have z1 := b1.size
  rw [asz] at z1
  have B : Below (w.heap.size + 1) (w.alloc (.cells #[.int .i64 0, .int .i64 0] 30)) w2 := b1.trans (grown_below g2 (Nat.le_refl _) z1)
  obtain ⟨c0, c1, cf, hz⟩ := G3.kept2 B
  have HW : Hid (Below w.heap.size w w2) := (albel w _).trans (B.mono (Nat.le_succ _))
  have HA : Hid (ok64 a ∧ ok64 b) := ⟨ha, hb⟩
  clear B b1 g2 d2 d1 ha hb k0
  unfold sig
  go_wp2
  exact bodyPost_ret (v := sig a b) (by simp [results, Tryd.results12, go_sem, sig, c0, c1]) rfl ⟨a, b, rfl, HA.out.1, HA.out.2, (HW.out.setCell (by simp) _).setCell (by simp) _⟩

set_option maxRecDepth 100000 in
set_option maxHeartbeats 800000 in
theorem hash_draw (v : Value) (n : Nat) (w : World) (hc : IsCode w.heap.size w v n) :
    Calls Tryd.prog 7 #[v] w fun e w' => ∃ (t : ByteArray) (z : Int), e = .returned (.tuple #[.string t, .int .i64 z]) ∧ t.size ≤ 8 ∧ 0 ≤ z ∧ z ≤ 1000001 ∧ Below w.heap.size w w' := by
  go_enter Tryd.func7, Tryd.ntmps7
  go_wp2_with fail
  refine (drawSource v n _ hc).mono ?_
  rintro e w1 ⟨rfl, d1, b1⟩
  have z0 := b1.size
  go_wp2_with fail
  refine (text_draw d1).mono ?_
  rintro e w2 ⟨t, rfl, ht, d2, g2⟩
  go_wp2_with fail
  refine (drawOne 10 d2 (by omega) (by omega)).mono ?_
  rintro e w3 ⟨b, rfl, d3, g3⟩
  have G := grown_trans g2 g3
  clear g2 g3 d1 d2
  cases b with
  | true =>
    have l3 := d3.lt
    have b3 : Below w.heap.size w w3 := b1.trans (grown_below G (Nat.le_refl _) z0)
    clear b1 G z0
    go_wp2_with fail
    go_region_with (first
      | (go_at_call 27; refine (drawN 4 d3.drew (by omega) (by omega)).mono ?_; rintro e w4 ⟨r, rfl, hr, d4, g4⟩; obtain ⟨z, hz0, z1, z2⟩ := lit_get [0, 1, 1000000, 1000001] 0 1000001 (by decide) r (by simp; omega); have hz : (#[Value.int .i64 0, .int .i64 1, .int .i64 1000000, .int .i64 1000001] : Array Value)[r]? = some (.int .i64 z) := hz0; clear hz0)
      | (go_at_call 27; refine (drawN 4 (d3.drew.alloc (.cells #[.int .i64 0, .int .i64 1, .int .i64 1000000, .int .i64 1000001] 2)) (by omega) (by omega)).mono ?_; rintro e w4 ⟨r, rfl, hr, d4, g4⟩; obtain ⟨z, hz, z1, z2⟩ := lit_get [0, 1, 1000000, 1000001] 0 1000001 (by decide) r (by simp; omega); have hcell : w4.cell? ⟨w3.heap.size, r, none⟩ = some (.int .i64 z) := (lit_kept g4 l3 r).trans hz))
    all_goals
      have l4 := d4.lt
      have b3d : Below w.heap.size w w3.drew := b3.drew
      have l3d : w.heap.size < w3.drew.heap.size := l3
      go_wp2
      go_ret2
      refine ⟨t, z, rfl, ht, z1, z2, ?_⟩
      first
        | exact (b3d.alloc (Nat.le_of_lt l3d) _).trans (grown_below g4 (Nat.le_refl _) (by rw [asz]; omega))
        | exact (b3d.trans (grown_below g4 (Nat.le_refl _) (Nat.le_of_lt l3d))).alloc (Nat.le_of_lt l4) _
  | false =>
    go_wp2_with fail
    refine (drawN 5003 d3 (by omega) (by omega)).mono ?_
    rintro e w4 ⟨r, rfl, hr, d4, g4⟩
    go_wp2
    go_ret2
    exact ⟨t, _, rfl, ht, by omega, by omega, b1.trans (grown_below (grown_trans G g4) (Nat.le_refl _) z0)⟩
end Go.Proofs.YthmlkbgnooahlaaDoor.DV
