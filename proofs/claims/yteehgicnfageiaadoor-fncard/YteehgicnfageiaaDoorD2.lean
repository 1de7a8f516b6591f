/-
  The laws' own source of drawn numbers, on: a new source over given bytes; a number at some limit; a byte of the given ones.
-/
import Derived.Test.YteehgicnfageiaaDoorD1
namespace Go.Proofs.YteehgicnfageiaaDoor.D2
open Go.RowKit
open Go.Proofs.YteehgicnfageiaaDoor.C0
open Go.Proofs.YteehgicnfageiaaDoor.D0

theorem IsSrc_sized {w : World} {p n : Nat} {v : Value} (h : IsSrc w p v n) (k : Nat) (hk : k ≤ 12) : IsSrc (w.setCell ⟨p, 3, none⟩ (.int .i64 k)) p v n := by
  obtain ⟨at_, m', sz, hb, hat, h0, h9, hsz⟩ := h
  refine ⟨at_, m', k, ?_, hat, h0, h9, hk⟩
  have := heap_setCell_same w p 3 _ _ (.int .i64 k) hb
  simpa using this
/-- The source whose size may be anything. -/
def IsSrc0 (w : World) (p : Nat) (v : Value) (n : Nat) : Prop :=
  ∃ (at_ : Nat) (m : Int) (x : Value), w.heap[p]? = some (.cells #[v, .int .i64 at_, .int .u64 m, x] 102 (0, 0)) ∧ at_ ≤ n ∧ 0 ≤ m ∧ m ≤ 18446744073709551615
theorem IsSrc0.sized {w : World} {p n : Nat} {v : Value} (h : IsSrc0 w p v n) (k : Nat) (hk : k ≤ 12) : IsSrc (w.setCell ⟨p, 3, none⟩ (.int .i64 k)) p v n := by
  obtain ⟨at_, m', sz, hb, hat, h0, h9⟩ := h
  refine ⟨at_, m', k, ?_, hat, h0, h9, hk⟩
  have := heap_setCell_same w p 3 _ _ (.int .i64 k) hb
  simpa using this
theorem IsSrc0.any {w : World} {p n : Nat} {v : Value} (h : IsSrc0 w p v n) (x : Value) : IsSrc0 (w.setCell ⟨p, 3, none⟩ x) p v n := by
  obtain ⟨at_, m', sz, hb, hat, h0, h9⟩ := h
  refine ⟨at_, m', x, ?_, hat, h0, h9⟩
  have := heap_setCell_same w p 3 _ _ x hb
  simpa using this
theorem IsSrc0.mix {w : World} {p n : Nat} {v : Value} (h : IsSrc0 w p v n) (m : Int) (h0 : 0 ≤ m) (h9 : m ≤ 18446744073709551615) : IsSrc0 (w.setCell ⟨p, 2, none⟩ (.int .u64 m)) p v n := by
  obtain ⟨at_, m', sz, hb, hat, _, _⟩ := h
  refine ⟨at_, m, sz, ?_, hat, h0, h9⟩
  have := heap_setCell_same w p 2 _ _ (.int .u64 m) hb
  simpa using this
theorem wrap_bounds (x : Int) : 0 ≤ IntKind.u64.wrap x ∧ IntKind.u64.wrap x ≤ 18446744073709551615 := by rw [IntKind.wrap_u64]; omega

set_option maxRecDepth 100000 in
set_option maxHeartbeats 1600000 in
theorem source_any (v : Value) (n : Nat) (w : World) (hc : IsCode w.heap.size w v n) :
    Calls Tryd.prog 42 #[v] w fun e w' => e = .returned (.pointer (some ⟨w.heap.size, 0, none⟩)) ∧ IsSrc w' w.heap.size v n ∧ IsCode w.heap.size w' v n ∧ Below w.heap.size w w' := by
  have hc' := hc
  obtain ⟨hn, a, cap, rfl, hcc⟩ := hc
  rcases hcc with rfl | ⟨b, off, rfl, hz⟩
  · go_enter Tryd.func42, Tryd.ntmps42
    go_wp2
    refine wp_loop_rounds 1 ?_
    rw [rounds_succ]
    go_wp2
    go_ret
    refine ⟨rfl, ⟨0, 88172645463325252, 0, heap_alloc_new w _, Nat.le_refl _, by omega, by omega, by omega⟩, hc'.below ((Below.refl w.heap.size w).alloc (Nat.le_refl _) _) (Nat.le_refl _), (Below.refl _ _).alloc (Nat.le_refl _) _⟩
  · go_enter Tryd.func42, Tryd.ntmps42
    go_wp2
    go_loopw [4] (fun i wr => ∃ k : Nat, k ≤ n ∧ i = .int .i64 k ∧ IsSrc0 wr w.heap.size (.slice (some ⟨b, off, none⟩) n cap) n ∧ Below w.heap.size w wr ∧ w.heap.size < wr.heap.size) (fun i _ => n - (intOf i).toNat)
    case atStart => exact ⟨0, Nat.zero_le _, rfl, ⟨0, 88172645463325252, _, heap_alloc_new w _, Nat.zero_le _, by omega, by omega⟩, (Below.refl _ _).alloc (Nat.le_refl _) _, by simp⟩
    case round =>
      obtain ⟨k, hk, rfl, hs, hbel, hwz⟩ := hrel
      have HS : Hid (IsSrc0 wr w.heap.size (.slice (some ⟨b, off, none⟩) n cap) n) := hs
      obtain ⟨at_, m, x, hbk, hat, hm0, hm9⟩ := hs
      have q2 : wr.cell? ⟨w.heap.size, 2, none⟩ = some (.int .u64 m) := cell_of_block hbk 2
      have q3 : wr.cell? ⟨w.heap.size, 3, none⟩ = some x := cell_of_block hbk 3
      have qf := frozen_of_block hbk
      have q3s : ∀ y : Value, (wr.setCell ⟨w.heap.size, 3, none⟩ y).cell? ⟨w.heap.size, 3, none⟩ = some y := fun y => set_same q3 y
      clear hbk
      by_cases hgo : k < n ∧ k < 64
      · obtain ⟨hkn, hk64⟩ := hgo
        obtain ⟨z, hz1, hb, hz2⟩ := hz k hkn
        have hcell : wr.cell? ⟨b, off + k, none⟩ = some (.int .u8 z) := (hbel.cell (p := ⟨b, off + k, none⟩) hb).trans hz2
        have hi1 : (k : Int) < (n : Int) := by omega
        go_wp2
        go_region
        go_wp2
        go_roundw
        case rel => exact ⟨k + 1, by omega, by go_num, (HS.out.mix _ (wrap_bounds _).1 (wrap_bounds _).2), (hbel.setCell (by simp) _).drew, by simpa [World.setCell] using hwz⟩
        case measure => simp [intOf]; omega
      · have hfin : ∀ W, Below w.heap.size w W → IsSrc W w.heap.size (.slice (some ⟨b, off, none⟩) n cap) n →
            IsSrc W w.heap.size (.slice (some ⟨b, off, none⟩) n cap) n ∧ IsCode w.heap.size W (.slice (some ⟨b, off, none⟩) n cap) n ∧ Below w.heap.size w W := fun W h1 h2 => ⟨h2, hc'.below h1 (Nat.le_refl _), h1⟩
        rcases (show ¬ k < n ∨ ((k : Int) < (n : Int) ∧ (64 : Int) ≤ (k : Int)) by
          by_cases e : k < n
          · exact .inr ⟨by omega, by omega⟩
          · exact .inl e) with hd | ⟨hd, hd2⟩
        all_goals
          by_cases h12 : n / 20 ≤ 12
          · have h12' : ¬ (12 : Int) < (n : Int) / 20 := by omega
            clear hgo
            go_wp2
            go_ret
            exact ⟨rfl, hfin _ (hbel.setCell (by simp) _) (HS.out.sized (n / 20) h12)⟩
          · have h12' : (12 : Int) < (n : Int) / 20 := by omega
            clear hgo
            go_wp2
            go_ret
            exact ⟨rfl, hfin _ ((hbel.setCell (by simp) _).setCell (by simp) _) ((HS.out.any _).sized 12 (by omega))⟩

theorem edge_cell (r : Nat) (h : r < 14) : ∃ z : Int, (#[Value.int .i64 0, .int .i64 1, .int .i64 (-1), .int .i64 2, .int .i64 1000, .int .i64 1001, .int .i64 2147483648, .int .i64 2147483647, .int .i64 (-2147483648), .int .i64 4611686018427387904, .int .i64 9223372036854775807, .int .i64 (-9223372036854775808), .int .i64 1000000, .int .i64 1000001] : Array Value)[r]? = some (.int .i64 z) ∧ -9223372036854775808 ≤ z ∧ z ≤ 9223372036854775807 := by
  match r, h with
  | 0, _ => exact ⟨_, rfl, by omega, by omega⟩
  | 1, _ => exact ⟨_, rfl, by omega, by omega⟩
  | 2, _ => exact ⟨_, rfl, by omega, by omega⟩
  | 3, _ => exact ⟨_, rfl, by omega, by omega⟩
  | 4, _ => exact ⟨_, rfl, by omega, by omega⟩
  | 5, _ => exact ⟨_, rfl, by omega, by omega⟩
  | 6, _ => exact ⟨_, rfl, by omega, by omega⟩
  | 7, _ => exact ⟨_, rfl, by omega, by omega⟩
  | 8, _ => exact ⟨_, rfl, by omega, by omega⟩
  | 9, _ => exact ⟨_, rfl, by omega, by omega⟩
  | 10, _ => exact ⟨_, rfl, by omega, by omega⟩
  | 11, _ => exact ⟨_, rfl, by omega, by omega⟩
  | 12, _ => exact ⟨_, rfl, by omega, by omega⟩
  | 13, _ => exact ⟨_, rfl, by omega, by omega⟩
set_option maxRecDepth 100000 in
theorem edge_any (B p n : Nat) (v : Value) (w : World) (hv : IsSrc w p v n) (hc : IsCode B w v n) (hB : B ≤ p) :
    Calls Tryd.prog 50 #[.pointer (some ⟨p, 0, none⟩)] w fun e w' => ∃ z : Int, e = .returned (.int .i64 z) ∧ -9223372036854775808 ≤ z ∧ z ≤ 9223372036854775807 ∧ IsSrc w' p v n ∧ w.grownBy w' (some p) := by
  have hlt := hv.lt
  go_enter Tryd.func50, Tryd.ntmps50
  go_wp2_with fail
  have hv1 := hv.kept (Below.heap_alloc w (.cells #[.int .i64 0, .int .i64 1, .int .i64 (-1), .int .i64 2, .int .i64 1000, .int .i64 1001, .int .i64 2147483648, .int .i64 2147483647, .int .i64 (-2147483648), .int .i64 4611686018427387904, .int .i64 9223372036854775807, .int .i64 (-9223372036854775808), .int .i64 1000000, .int .i64 1000001] 2) p hlt)
  refine (n_any B p n v 14 _ hv1 (hc.below ((Below.refl w.heap.size w).alloc (Nat.le_refl _) _) (by omega)) (by omega) (by omega)).mono ?_
  rintro e w1 ⟨r, rfl, hr, hs, hg⟩
  have hr14 : r < 14 := by omega
  obtain ⟨z, hz, hz1, hz2⟩ := edge_cell r hr14
  have hcell : w1.cell? ⟨w.heap.size, r, none⟩ = some (.int .i64 z) := by
    rw [World.cell?_of_block (w := w.alloc _) (hg.block w.heap.size (by simp) (by simp; omega))]
    exact (cell_of_block (heap_alloc_new w _) r).trans hz
  have hri : (r : Int) < 14 := by omega
  have hgr : w.grownBy w1 (some p) := grown_trans (World.grownBy_alloc w _ _) hg
  clear hg hv1
  go_wp2
  go_ret
  exact ⟨z, rfl, hz1, hz2, hs, hgr⟩
end Go.Proofs.YteehgicnfageiaaDoor.D2
