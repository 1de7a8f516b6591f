/-
  What the draws of chapter 2 leave: some text, some number, in their bounds.
-/
import Derived.Test.YtmfghkoimfckjaaD2
import Derived.Test.YtmfghkoimfckjaaC6
import Derived.Deep.OwnRows
namespace Go.Proofs.Ytmfghkoimfckjaa.D3
open Go.RowKit
open Go.Proofs.Ytmfghkoimfckjaa.C0
open Go.Proofs.Ytmfghkoimfckjaa.D0

set_option maxRecDepth 100000 in
/-- One of the given bytes, below most; 0 without any. -/
theorem at_any (B n : Nat) (v : Value) (k : Nat) (most : Int) (w : World) (hc : IsCode B w v n) (hk : k ≤ 1000) (hm : most ≤ 9223372036854775807) :
    Calls Try.prog 7 #[v, .int .i64 k, .int .i64 most] w fun e w' => ∃ r : Nat, e = .returned (.int .i64 r) ∧ (r = 0 ∨ (r : Int) < most) ∧ w = w' := by
  obtain ⟨hn, a, cap, rfl, hcc⟩ := hc
  by_cases h1 : most ≤ 1
  · have hd : decide (most ≤ 1) = true := by simp [h1]
    go_enter Try.func7, Try.ntmps7
    go_wp2
    go_ret
    exact ⟨0, rfl, .inl rfl, rfl⟩
  · have hd : decide (most ≤ 1) = false := by simp; omega
    rcases hcc with rfl | ⟨b, off, rfl, hz⟩
    · go_enter Try.func7, Try.ntmps7
      go_wp2
      go_ret
      exact ⟨0, rfl, .inl rfl, rfl⟩
    · by_cases h0 : n = 0
      · subst h0
        go_enter Try.func7, Try.ntmps7
        go_wp2
        go_ret
        exact ⟨0, rfl, .inl rfl, rfl⟩
      · have h0b : ((n : Int) == 0) = false := by rw [beq_eq_false_iff_ne]; omega
        have hmod : k % n < n := Nat.mod_lt _ (by omega)
        obtain ⟨z, hz1, _, hz2⟩ := hz (k % n) hmod
        have hni : (0 : Int) < (n : Int) := by omega
        go_enter Try.func7, Try.ntmps7
        go_wp2
        go_ret
        have h3 : 0 ≤ (z : Int) % most := Int.emod_nonneg _ (by omega)
        have h4 : (z : Int) % most < most := Int.emod_lt_of_pos _ (by omega)
        exact ⟨((z : Int) % most).toNat, ret_int (by omega), .inr (by omega), rfl⟩

theorem made_row (base : Nat) (w : World) (n : Nat) (hb : base ≤ w.heap.size) (hn : n ≤ 1000000) :
    owns base (.slice (some ⟨w.heap.size, 0, none⟩) n n) (List.replicate n 0) (w.alloc (.cells (madeCells #[.int .u8 0] n) 5)) := by
  refine C6.owns_lit base w (List.replicate n 0) _ n hb (by simp) (by unfold maxLen; omega) ?_
  rw [toList_madeCells_one]
  simp [Mb.cells]

set_option maxRecDepth 100000 in
theorem seal_any (v : Value) (n : Nat) (w : World) (hc : IsCode w.heap.size w v n) :
    Calls Try.prog 4 #[v] w fun e w' => ∃ t : ByteArray, e = .returned (.string t) ∧ t.size ≤ 20000 ∧ Below w.heap.size w w' := by
  go_enter Try.func4, Try.ntmps4
  go_wp2_with fail
  refine (D2.source_any v n _ hc).mono ?_
  rintro e w1 ⟨rfl, hs1, hc1, hb1⟩
  have z1 := hs1.lt
  go_wp2_with fail
  refine (D1.one_any w.heap.size w.heap.size n v 30 _ hs1 hc1 (by omega) (by omega)).mono ?_
  rintro e w2 ⟨b, rfl, hs2, hg2⟩
  have z2 := hs2.lt
  have hc2 := hc1.grown hg2 (Nat.le_refl _) (by omega)
  have hb2 : Below w.heap.size w w2 := hb1.trans (grown_below hg2 (Nat.le_refl _) (by omega))
  clear hs1 hc1 hb1 hg2 hc
  cases b with
  | true =>
    go_wp2_with fail
    refine (n_any w.heap.size w.heap.size n v 3 _ hs2 hc2 (by omega) (by omega)).mono ?_
    rintro e w3 ⟨r, rfl, hr, hs3, hg3⟩
    have hr3 : r < 3 := by omega
    have z3 := hs3.lt
    have hb3 : Below w.heap.size w w3 := hb2.trans (grown_below hg3 (Nat.le_refl _) (by omega))
    have hmk := run_make_row' (P := Try.prog) 22 5 (.int .u8 0) 1 Try.underlying22 info_u8 rfl .i64 .i64 (19995 + r) (by omega) (by omega)
    rw [show ((19995 + r : Nat) : Int) = 19995 + (r : Int) by omega] at hmk
    have hconv := conv_own (made_row w3.heap.size w3 (19995 + r) (Nat.le_refl _) (by omega))
    clear hs3 hg3 hs2 hc2 hb2
    go_wp2
    go_ret
    exact ⟨_, rfl, by simp [ByteArray.size]; omega, hb3.alloc (by omega) _⟩
  | false =>
    go_wp2_with fail
    refine (n_any w.heap.size w.heap.size n v 20 _ hs2 hc2 (by omega) (by omega)).mono ?_
    rintro e w3 ⟨r, rfl, hr, hs3, hg3⟩
    have hr3 : r < 20 := by omega
    have z3 := hs3.lt
    have hc3 := hc2.grown hg3 (Nat.le_refl _) (by omega)
    have hb3 : Below w.heap.size w w3 := hb2.trans (grown_below hg3 (Nat.le_refl _) (by omega))
    clear hs2 hc2 hb2 hg3
    go_wp2_with fail
    refine (D1.bytes_any w.heap.size w.heap.size n r v _ hs3 hc3 (Nat.le_refl _) (by omega)).mono ?_
    rintro e w4 ⟨t, rfl, ht, hs4, hg4⟩
    have hb4 : Below w.heap.size w w4 := hb3.trans (grown_below hg4 (Nat.le_refl _) (by omega))
    go_wp2
    go_ret
    exact ⟨t, rfl, by omega, hb4⟩

set_option maxRecDepth 100000 in
theorem more_any (v : Value) (n : Nat) (w : World) (hc : IsCode w.heap.size w v n) :
    Calls Try.prog 9 #[v] w fun e w' => ∃ (c : Int) (t : ByteArray), e = .returned (.tuple #[.int .i64 c, .string t]) ∧ -9223372036854775808 ≤ c ∧ c ≤ 9223372036854775807 ∧ t.size ≤ 9 ∧ Below w.heap.size w w' := by
  go_enter Try.func9, Try.ntmps9
  go_wp2_with fail
  refine (D2.source_any v n _ hc).mono ?_
  rintro e w1 ⟨rfl, hs1, hc1, hb1⟩
  have z1 := hs1.lt
  go_wp2_with fail
  refine (n_any w.heap.size w.heap.size n v 9 _ hs1 hc1 (by omega) (by omega)).mono ?_
  rintro e w2 ⟨r, rfl, hr, hs2, hg2⟩
  have hr2 : r < 9 := by omega
  have z2 := hs2.lt
  have hc2 := hc1.grown hg2 (Nat.le_refl _) (by omega)
  have hb2 : Below w.heap.size w w2 := hb1.trans (grown_below hg2 (Nat.le_refl _) (by omega))
  clear hs1 hc1 hb1 hg2 hc
  go_wp2_with fail
  refine (D1.bytes_any w.heap.size w.heap.size n r v _ hs2 hc2 (Nat.le_refl _) (by omega)).mono ?_
  rintro e w3 ⟨t, rfl, ht, hs3, hg3⟩
  have z3 := hs3.lt
  have hc3 := hc2.grown hg3 (Nat.le_refl _) (by omega)
  have hb3 : Below w.heap.size w w3 := hb2.trans (grown_below hg3 (Nat.le_refl _) (by omega))
  clear hs2 hc2 hb2 hg3
  go_wp2_with fail
  refine (D1.one_any w.heap.size w.heap.size n v 5 _ hs3 hc3 (by omega) (by omega)).mono ?_
  rintro e w4 ⟨b, rfl, hs4, hg4⟩
  have z4 := hs4.lt
  have hc4 := hc3.grown hg4 (Nat.le_refl _) (by omega)
  have hb4 : Below w.heap.size w w4 := hb3.trans (grown_below hg4 (Nat.le_refl _) (by omega))
  clear hs3 hc3 hb3 hg4
  cases b with
  | true =>
    go_wp2_with fail
    refine (D2.edge_any w.heap.size w.heap.size n v _ hs4 hc4 (Nat.le_refl _)).mono ?_
    rintro e w5 ⟨z, rfl, hz1, hz2, hs5, hg5⟩
    have hb5 : Below w.heap.size w w5 := hb4.trans (grown_below hg5 (Nat.le_refl _) (by omega))
    go_wp2
    go_ret2
    exact ⟨z, t, rfl, hz1, hz2, by omega, hb5⟩
  | false =>
    go_wp2_with fail
    refine (n_any w.heap.size w.heap.size n v 9 _ hs4 hc4 (by omega) (by omega)).mono ?_
    rintro e w5 ⟨r5, rfl, hr5, hs5, hg5⟩
    have hr59 : r5 < 9 := by omega
    have z5 := hs5.lt
    have hc5 := hc4.grown hg5 (Nat.le_refl _) (by omega)
    have hb5 : Below w.heap.size w w5 := hb4.trans (grown_below hg5 (Nat.le_refl _) (by omega))
    clear hs4 hc4 hb4 hg5
    go_wp2_with fail
    refine (D1.bytes_any w.heap.size w.heap.size n r5 v _ hs5 hc5 (Nat.le_refl _) (by omega)).mono ?_
    rintro e w6 ⟨t6, rfl, ht6, hs6, hg6⟩
    have hb6 : Below w.heap.size w w6 := hb5.trans (grown_below hg6 (Nat.le_refl _) (by omega))
    clear hs5 hc5 hb5 hg6 hs6
    go_wp2_with fail
    refine (C5.only_spec t6 _ (by unfold maxLen; omega)).mono ?_
    rintro e w7 ⟨rfl, rfl⟩
    have hcl : C5.crc t6 < 4294967296 := by
      unfold C5.crc
      split
      · omega
      · exact Mc.crcMore_lt 0 _ (by omega)
    go_wp2
    go_ret2
    exact ⟨_, t, rfl, by omega, by omega, by omega, hb6⟩
end Go.Proofs.Ytmfghkoimfckjaa.D3
