/-
  What the draws of stage 2 leave: a key and a text, a text, a pass and a number of rounds, in their bounds.
-/
import Derived.Test.YthnnpiijjdoflaaDoorD2
import Derived.Test.YthnnpiijjdoflaaDoorD4
import Derived.Deep.RegionWith
namespace Go.Proofs.YthnnpiijjdoflaaDoor.D5
open Go.RowKit
open Go.Proofs.YthnnpiijjdoflaaDoor.C0
open Go.Proofs.YthnnpiijjdoflaaDoor.D0

set_option maxRecDepth 100000 in
theorem digest_any (v : Value) (n : Nat) (w : World) (hc : IsCode w.heap.size w v n) :
    Calls Tryd.prog 11 #[v] w fun e w' => ∃ t : ByteArray, e = .returned (.string t) ∧ t.size ≤ 200 ∧ Below w.heap.size w w' := by
  go_enter Tryd.func11, Tryd.ntmps11
  go_wp2_with fail
  refine (D2.source_any v n _ hc).mono ?_
  rintro e w1 ⟨rfl, hs1, hc1, hb1⟩
  have z1 := hs1.lt
  go_wp2_with fail
  refine (n_any w.heap.size w.heap.size n v 200 _ hs1 hc1 (by omega) (by omega)).mono ?_
  rintro e w2 ⟨r, rfl, hr, hs2, hg2⟩
  have hr2 : r < 200 := by omega
  have z2 := hs2.lt
  have hc2 := hc1.grown hg2 (Nat.le_refl _) (by omega)
  have hb2 : Below w.heap.size w w2 := hb1.trans (grown_below hg2 (Nat.le_refl _) (by omega))
  clear hs1 hc1 hb1 hg2 hc
  go_wp2_with fail
  refine (D1.bytes_any w.heap.size w.heap.size n r v _ hs2 hc2 (Nat.le_refl _) (by omega)).mono ?_
  rintro e w3 ⟨t, rfl, ht, hs3, hg3⟩
  have hb3 : Below w.heap.size w w3 := hb2.trans (grown_below hg3 (Nat.le_refl _) (by omega))
  go_wp2
  go_ret
  exact ⟨t, rfl, by omega, hb3⟩

set_option maxRecDepth 100000 in
theorem mac_any (v : Value) (n : Nat) (w : World) (hc : IsCode w.heap.size w v n) :
    Calls Tryd.prog 7 #[v] w fun e w' => ∃ k t : ByteArray, e = .returned (.tuple #[.string k, .string t]) ∧ k.size ≤ 65 ∧ t.size ≤ 100 ∧ Below w.heap.size w w' := by
  go_enter Tryd.func7, Tryd.ntmps7
  go_wp2_with fail
  refine (D2.source_any v n _ hc).mono ?_
  rintro e w1 ⟨rfl, hs1, hc1, hb1⟩
  have z1 := hs1.lt
  go_wp2_with fail
  refine (n_any w.heap.size w.heap.size n v 20 _ hs1 hc1 (by omega) (by omega)).mono ?_
  rintro e w2 ⟨r, rfl, hr, hs2, hg2⟩
  have hr2 : r < 20 := by omega
  have z2 := hs2.lt
  have hc2 := hc1.grown hg2 (Nat.le_refl _) (by omega)
  have hb2 : Below w.heap.size w w2 := hb1.trans (grown_below hg2 (Nat.le_refl _) (by omega))
  clear hs1 hc1 hb1 hg2 hc
  go_wp2_with fail
  refine (D1.bytes_any w.heap.size w.heap.size n r v _ hs2 hc2 (Nat.le_refl _) (by omega)).mono ?_
  rintro e w3 ⟨k, rfl, hk, hs3, hg3⟩
  have z3 := hs3.lt
  have hc3 := hc2.grown hg3 (Nat.le_refl _) (by omega)
  have hb3 : Below w.heap.size w w3 := hb2.trans (grown_below hg3 (Nat.le_refl _) (by omega))
  clear hs2 hc2 hb2 hg3
  go_wp2_with fail
  refine (D1.one_any w.heap.size w.heap.size n v 6 _ hs3 hc3 (by omega) (by omega)).mono ?_
  rintro e w4 ⟨b, rfl, hs4, hg4⟩
  have z4 := hs4.lt
  have hc4 := hc3.grown hg4 (Nat.le_refl _) (by omega)
  have hb4 : Below w.heap.size w w4 := hb3.trans (grown_below hg4 (Nat.le_refl _) (by omega))
  clear hs3 hc3 hb3 hg4
  cases b with
  | true =>
    go_wp2_with fail
    refine (n_any w.heap.size w.heap.size n v 3 _ hs4 hc4 (by omega) (by omega)).mono ?_
    rintro e w5 ⟨r5, rfl, hr5, hs5, hg5⟩
    have hr53 : r5 < 3 := by omega
    have z5 := hs5.lt
    have hc5 := hc4.grown hg5 (Nat.le_refl _) (by omega)
    have hb5 : Below w.heap.size w w5 := hb4.trans (grown_below hg5 (Nat.le_refl _) (by omega))
    have hmk := run_make_row' (P := Tryd.prog) 22 5 (.int .u8 0) 1 Tryd.underlying22 info_u8 rfl .i64 .i64 (63 + r5) (by omega) (by omega)
    rw [show ((63 + r5 : Nat) : Int) = 63 + (r5 : Int) by omega] at hmk
    have hconv := conv_own (D4.made_row w5.heap.size w5 (63 + r5) (Nat.le_refl _) (by omega))
    have hs6 : IsSrc (w5.alloc (.cells (madeCells #[.int .u8 0] (63 + r5)) 5)) w.heap.size v n := hs5.kept (Below.heap_alloc w5 _ w.heap.size z5)
    have hc6 : IsCode w.heap.size (w5.alloc (.cells (madeCells #[.int .u8 0] (63 + r5)) 5)) v n := hc5.below ((Below.refl w5.heap.size w5).alloc (Nat.le_refl _) _) (by omega)
    have hb6 : Below w.heap.size w (w5.alloc (.cells (madeCells #[.int .u8 0] (63 + r5)) 5)) := hb5.alloc (by omega) _
    have z6 := hs6.lt
    clear hs4 hc4 hb4 hg5 hs5 hc5 hb5
    go_wp2_with fail
    generalize w5.alloc (.cells (madeCells #[.int .u8 0] (63 + r5)) 5) = w6 at *
    refine (n_any w.heap.size w.heap.size n v 100 _ hs6 hc6 (by omega) (by omega)).mono ?_
    rintro e w7 ⟨r7, rfl, hr7, hs7, hg7⟩
    have hr70 : r7 < 100 := by omega
    have z7 := hs7.lt
    have hc7 := hc6.grown hg7 (Nat.le_refl _) (by omega)
    have hb7 : Below w.heap.size w w7 := hb6.trans (grown_below hg7 (Nat.le_refl _) (by omega))
    clear hs6 hc6 hb6 hg7 hconv hmk
    go_wp2_with fail
    refine (D1.bytes_any w.heap.size w.heap.size n r7 v _ hs7 hc7 (Nat.le_refl _) (by omega)).mono ?_
    rintro e w8 ⟨t, rfl, ht, hs8, hg8⟩
    have hb8 : Below w.heap.size w w8 := hb7.trans (grown_below hg8 (Nat.le_refl _) (by omega))
    go_wp2
    go_ret2
    exact ⟨_, t, rfl, by simp [ByteArray.size]; omega, by omega, hb8⟩
  | false =>
    go_wp2_with fail
    refine (n_any w.heap.size w.heap.size n v 100 _ hs4 hc4 (by omega) (by omega)).mono ?_
    rintro e w7 ⟨r7, rfl, hr7, hs7, hg7⟩
    have hr70 : r7 < 100 := by omega
    have z7 := hs7.lt
    have hc7 := hc4.grown hg7 (Nat.le_refl _) (by omega)
    have hb7 : Below w.heap.size w w7 := hb4.trans (grown_below hg7 (Nat.le_refl _) (by omega))
    clear hs4 hc4 hb4 hg7
    go_wp2_with fail
    refine (D1.bytes_any w.heap.size w.heap.size n r7 v _ hs7 hc7 (Nat.le_refl _) (by omega)).mono ?_
    rintro e w8 ⟨t, rfl, ht, hs8, hg8⟩
    have hb8 : Below w.heap.size w w8 := hb7.trans (grown_below hg8 (Nat.le_refl _) (by omega))
    go_wp2
    go_ret2
    exact ⟨k, t, rfl, by omega, by omega, hb8⟩

theorem five_cell (z : Int) (hz1 : -9223372036854775808 ≤ z) (hz2 : z ≤ 9223372036854775807) (r : Nat) (h : r < 5) : ∃ y : Int, (#[Value.int .i64 0, .int .i64 1, .int .i64 100, .int .i64 101, .int .i64 z] : Array Value)[r]? = some (.int .i64 y) ∧ -9223372036854775808 ≤ y ∧ y ≤ 9223372036854775807 := by
  match r, h with
  | 0, _ => exact ⟨_, rfl, by omega, by omega⟩
  | 1, _ => exact ⟨_, rfl, by omega, by omega⟩
  | 2, _ => exact ⟨_, rfl, by omega, by omega⟩
  | 3, _ => exact ⟨_, rfl, by omega, by omega⟩
  | 4, _ => exact ⟨_, rfl, hz1, hz2⟩

theorem five_kept {w5 w6 : World} {p : Nat} {z y : Int} {r : Nat} (hg : (w5.alloc (.cells #[Value.int .i64 0, .int .i64 1, .int .i64 100, .int .i64 101, .int .i64 z] 2)).grownBy w6 (some p)) (hp : p < w5.heap.size)
    (hy : (#[Value.int .i64 0, .int .i64 1, .int .i64 100, .int .i64 101, .int .i64 z] : Array Value)[r]? = some (.int .i64 y)) : w6.cell? ⟨w5.heap.size, r, none⟩ = some (.int .i64 y) := by
  have hb := hg.block w5.heap.size (by rw [Go.Deep.nblk_alloc]; omega) (by simp; omega)
  rw [World.cell?_of_block (w := w5.alloc (.cells #[Value.int .i64 0, .int .i64 1, .int .i64 100, .int .i64 101, .int .i64 z] 2)) hb]
  exact (cell_of_block (heap_alloc_new w5 _) r).trans hy

set_option maxRecDepth 100000 in
set_option maxHeartbeats 800000 in
theorem stretch_any (v : Value) (n : Nat) (w : World) (hc : IsCode w.heap.size w v n) :
    Calls Tryd.prog 12 #[v] w fun e w' => ∃ (t : ByteArray) (z : Int), e = .returned (.tuple #[.string t, .int .i64 z]) ∧ t.size ≤ 9 ∧ -9223372036854775808 ≤ z ∧ z ≤ 9223372036854775807 ∧ Below w.heap.size w w' := by
  go_enter Tryd.func12, Tryd.ntmps12
  go_wp2_with fail
  refine (D2.source_any v n _ hc).mono ?_
  rintro e w1 ⟨rfl, hs1, hc1, hb1⟩
  have z1 := hs1.lt
  go_wp2_with fail
  refine (n_any w.heap.size w.heap.size n v 9 _ hs1 hc1 (by omega) (by omega)).mono ?_
  rintro e w2 ⟨r, rfl, hr, hs2, hg2⟩
  have hr2 : r < 9 := by omega
  have z2 := hs2.lt
  have hc2 := hc1.grown hg2 (Nat.le_refl _) (by omega)
  have hb2 : Below w.heap.size w w2 := hb1.trans (grown_below hg2 (Nat.le_refl _) (by omega))
  clear hs1 hc1 hb1 hg2 hc
  go_wp2_with fail
  refine (D1.bytes_any w.heap.size w.heap.size n r v _ hs2 hc2 (Nat.le_refl _) (by omega)).mono ?_
  rintro e w3 ⟨t, rfl, ht, hs3, hg3⟩
  have z3 := hs3.lt
  have hc3 := hc2.grown hg3 (Nat.le_refl _) (by omega)
  have hb3 : Below w.heap.size w w3 := hb2.trans (grown_below hg3 (Nat.le_refl _) (by omega))
  clear hs2 hc2 hb2 hg3
  go_wp2_with fail
  refine (D1.one_any w.heap.size w.heap.size n v 6 _ hs3 hc3 (by omega) (by omega)).mono ?_
  rintro e w4 ⟨b, rfl, hs4, hg4⟩
  have z4 := hs4.lt
  have hc4 := hc3.grown hg4 (Nat.le_refl _) (by omega)
  have hb4 : Below w.heap.size w w4 := hb3.trans (grown_below hg4 (Nat.le_refl _) (by omega))
  clear hs3 hc3 hb3 hg4
  cases b with
  | true =>
    have hs4' : IsSrc w4.drew w.heap.size v n := hs4
    have hc4' : IsCode w.heap.size w4.drew v n := hc4.kept (fun _ _ => rfl)
    have z4' : w.heap.size ≤ w4.drew.heap.size := Nat.le_of_lt z4
    go_wp2_with fail
    go_region_with (first
      | (go_at_call 24; refine (D2.edge_any w.heap.size w.heap.size n v _ hs4' hc4' (Nat.le_refl _)).mono ?_; rintro e w5 ⟨z, rfl, hz1, hz2, hs5, hg5⟩; have hc5 := hc4'.grown hg5 (Nat.le_refl _) z4'; have z5 := hs5.lt)
      | (go_at_call 19; refine (n_any w.heap.size w.heap.size n v 5 _ hs5 hc5 (by omega) (by omega)).mono ?_; rintro e w6 ⟨r6, rfl, hr6, hs6, hg6⟩; obtain ⟨y, hy, hy1, hy2⟩ := five_cell z hz1 hz2 r6 (by omega); have hri : (r6 : Int) < 5 := (by omega))
      | (go_at_call 19; (refine (n_any w.heap.size w.heap.size n v 5 (w5.alloc (.cells #[.int .i64 0, .int .i64 1, .int .i64 100, .int .i64 101, .int .i64 z] 2)) (hs5.kept (Below.heap_alloc w5 _ w.heap.size z5)) (hc5.below ((Below.refl w5.heap.size w5).alloc (Nat.le_refl _) _) (Nat.le_of_lt z5)) (by omega) (by omega)).mono ?_; rintro e w6 ⟨r6, rfl, hr6, hs6, hg6⟩; obtain ⟨y, hy, hy1, hy2⟩ := five_cell z hz1 hz2 r6 (by omega); have hri : (r6 : Int) < 5 := (by omega); have hcell := five_kept hg6 z5 hy)))
    all_goals
      have hb5 : Below w.heap.size w w5 := (hb4.drew).trans (grown_below hg5 (Nat.le_refl _) z4')
      have z6 := hs6.lt
      go_wp2
      go_ret2
      refine ⟨t, y, rfl, by omega, hy1, hy2, ?_⟩
      first
        | exact (hb5.alloc (Nat.le_of_lt z5) _).trans (grown_below hg6 (Nat.le_refl _) (by rw [Go.Deep.nblk_alloc]; omega))
        | exact (hb5.trans (grown_below hg6 (Nat.le_refl _) (Nat.le_of_lt z5))).alloc (Nat.le_of_lt z6) _
  | false =>
    go_wp2_with fail
    refine (n_any w.heap.size w.heap.size n v 9 _ hs4 hc4 (by omega) (by omega)).mono ?_
    rintro e w5 ⟨r5, rfl, hr5, hs5, hg5⟩
    have hr59 : r5 < 9 := by omega
    have hb5 : Below w.heap.size w w5 := hb4.trans (grown_below hg5 (Nat.le_refl _) (by omega))
    go_wp2
    go_ret2
    exact ⟨t, _, rfl, by omega, by omega, by omega, hb5⟩
end Go.Proofs.YthnnpiijjdoflaaDoor.D5
