/-
  What the draws of a number and of a text to be put leave: some number, some text, in their bounds.
-/
import Derived.Test.YtmfghkoimfckjaaDoorD2
import Derived.Deep.OwnRows
namespace Go.Proofs.YtmfghkoimfckjaaDoor.D4
open Go.RowKit
open Go.Proofs.YtmfghkoimfckjaaDoor.C0
open Go.Proofs.YtmfghkoimfckjaaDoor.D0

theorem owns_row (base : Nat) (w : World) (l : List UInt8) (cs : Array Value) (n : Nat) (hb : base ≤ w.heap.size) (hn : l.length = n) (hm : n ≤ maxLen) (hc : cs.toList = (Mb.cells l).map (Value.int .u8)) :
    owns base (.slice (some ⟨w.heap.size, 0, none⟩) n n) l (w.alloc (.cells cs 5)) := by
  subst hn
  unfold owns
  rw [← hc]
  refine World.ownsRow_lit w cs l.length hb hm ?_
  have := congrArg List.length hc
  simpa [Mb.cells] using this
theorem made_row (base : Nat) (w : World) (n : Nat) (hb : base ≤ w.heap.size) (hn : n ≤ 1000000) :
    owns base (.slice (some ⟨w.heap.size, 0, none⟩) n n) (List.replicate n 0) (w.alloc (.cells (madeCells #[.int .u8 0] n) 5)) := by
  refine owns_row base w (List.replicate n 0) _ n hb (by simp) (by unfold maxLen; omega) ?_
  rw [toList_madeCells_one]
  simp [Mb.cells]

set_option maxRecDepth 100000 in
theorem any_any (B p n : Nat) (v : Value) (w : World) (hv : IsSrc w p v n) (hc : IsCode B w v n) (hB : B ≤ p) :
    Calls Tryd.prog 13 #[.pointer (some ⟨p, 0, none⟩)] w fun e w' => ∃ z : Int, e = .returned (.int .i64 z) ∧ -9223372036854775808 ≤ z ∧ z ≤ 9223372036854775807 ∧ IsSrc w' p v n ∧ w.grownBy w' (some p) := by
  have hlt := hv.lt
  go_enter Tryd.func13, Tryd.ntmps13
  go_wp2_with fail
  refine (D1.one_any B p n v 4 _ hv hc (by omega) (by omega)).mono ?_
  rintro e w1 ⟨b, rfl, hs1, hg1⟩
  have hc1 := hc.grown hg1 hB (by omega)
  cases b with
  | true =>
    go_wp2_with fail
    refine (D2.edge_any B p n v _ hs1 hc1 hB).mono ?_
    rintro e w2 ⟨z, rfl, hz1, hz2, hs2, hg2⟩
    go_wp2
    go_ret
    exact ⟨z, rfl, hz1, hz2, hs2, grown_trans hg1 hg2⟩
  | false =>
    go_wp2_with fail
    refine (n_any B p n v 1099511627776 _ hs1 hc1 (by omega) (by omega)).mono ?_
    rintro e w2 ⟨r, rfl, hr, hs2, hg2⟩
    have hr2 : (r : Int) < 1099511627776 := by omega
    go_wp2
    go_ret
    exact ⟨_, rfl, by omega, by omega, hs2, grown_trans hg1 hg2⟩

theorem num_any (v : Value) (n : Nat) (w : World) (hc : IsCode w.heap.size w v n) :
    Calls Tryd.prog 4 #[v] w fun e w' => ∃ z : Int, e = .returned (.int .i64 z) ∧ -9223372036854775808 ≤ z ∧ z ≤ 9223372036854775807 ∧ Below w.heap.size w w' := by
  go_enter Tryd.func4, Tryd.ntmps4
  go_wp2_with fail
  refine (D2.source_any v n _ hc).mono ?_
  rintro e w1 ⟨rfl, hs1, hc1, hb1⟩
  have z1 := hs1.lt
  go_wp2_with fail
  refine (any_any w.heap.size w.heap.size n v _ hs1 hc1 (Nat.le_refl _)).mono ?_
  rintro e w2 ⟨z, rfl, hz1, hz2, hs2, hg2⟩
  go_wp2
  go_ret
  exact ⟨z, rfl, hz1, hz2, hb1.trans (grown_below hg2 (Nat.le_refl _) (by omega))⟩

set_option maxRecDepth 100000 in
theorem text_any (v : Value) (n : Nat) (w : World) (hc : IsCode w.heap.size w v n) :
    Calls Tryd.prog 8 #[v] w fun e w' => ∃ t : ByteArray, e = .returned (.string t) ∧ t.size ≤ 20002 ∧ Below w.heap.size w w' := by
  go_enter Tryd.func8, Tryd.ntmps8
  go_wp2_with fail
  refine (D2.source_any v n _ hc).mono ?_
  rintro e w1 ⟨rfl, hs1, hc1, hb1⟩
  have z1 := hs1.lt
  go_wp2_with fail
  refine (D1.one_any w.heap.size w.heap.size n v 8 _ hs1 hc1 (by omega) (by omega)).mono ?_
  rintro e w2 ⟨b, rfl, hs2, hg2⟩
  have z2 := hs2.lt
  have hc2 := hc1.grown hg2 (Nat.le_refl _) (by omega)
  have hb2 : Below w.heap.size w w2 := hb1.trans (grown_below hg2 (Nat.le_refl _) (by omega))
  clear hs1 hc1 hb1 hg2 hc
  cases b with
  | true =>
    go_wp2_with fail
    refine (n_any w.heap.size w.heap.size n v 3 _ hs2 hc2 (by omega) (by omega)).mono ?_
    rintro e w3 ⟨r, rfl, hr, hs3, hg3⟩
    have hr3 : r < 3 := by omega
    have z3 := hs3.lt
    have hb3 : Below w.heap.size w w3 := hb2.trans (grown_below hg3 (Nat.le_refl _) (by omega))
    have hmk := run_make_row' (P := Tryd.prog) 22 5 (.int .u8 0) 1 Tryd.underlying22 info_u8 rfl .i64 .i64 (19999 + r) (by omega) (by omega)
    rw [show ((19999 + r : Nat) : Int) = 19999 + (r : Int) by omega] at hmk
    have hconv := conv_own (made_row w3.heap.size w3 (19999 + r) (Nat.le_refl _) (by omega))
    clear hs3 hg3 hs2 hc2 hb2
    go_wp2
    go_ret
    exact ⟨_, rfl, by simp [ByteArray.size]; omega, hb3.alloc (by omega) _⟩
  | false =>
    go_wp2_with fail
    refine (n_any w.heap.size w.heap.size n v 20 _ hs2 hc2 (by omega) (by omega)).mono ?_
    rintro e w3 ⟨r, rfl, hr, hs3, hg3⟩
    have hr3 : r < 20 := by omega
    have z3 := hs3.lt
    have hc3 := hc2.grown hg3 (Nat.le_refl _) (by omega)
    have hb3 : Below w.heap.size w w3 := hb2.trans (grown_below hg3 (Nat.le_refl _) (by omega))
    clear hs2 hc2 hb2 hg3
    go_wp2_with fail
    refine (D1.bytes_any w.heap.size w.heap.size n r v _ hs3 hc3 (Nat.le_refl _) (by omega)).mono ?_
    rintro e w4 ⟨t, rfl, ht, hs4, hg4⟩
    have hb4 : Below w.heap.size w w4 := hb3.trans (grown_below hg4 (Nat.le_refl _) (by omega))
    go_wp2
    go_ret
    exact ⟨t, rfl, by omega, hb4⟩
end Go.Proofs.YtmfghkoimfckjaaDoor.D4
