/-
  The laws' own measure and copies of cards.
-/
import Derived.Test.YtgmejbnolfmcdabN0
import Derived.Test.YtgmejbnolfmcdabSI
namespace Go.Proofs.Ytgmejbnolfmcdab.N1
open Go.RowKit
open Go.Proofs.Ytgmejbnolfmcdab.C0 Go.Proofs.Ytgmejbnolfmcdab.HB Go.Proofs.Ytgmejbnolfmcdab.SI
open Go.Proofs.Ytgmejbnolfmcdab.N0 (Cd cdV cardB)

def okC (c : Cd) (left r : Int) : Prop := r < 0 ∨ (0 ≤ r ∧ r ≤ left ∧ (c.pin.size : Int) ≤ left ∧ (c.dt.size : Int) ≤ left)
set_option maxRecDepth 100000 in
set_option maxHeartbeats 800000 in
theorem szCard_any (c : Cd) (left : Int) (w : World) (hp : c.pin.size ≤ maxLen) (hd : c.dt.size ≤ maxLen) (h0 : 0 ≤ left) (h1 : left ≤ 1048576) :
    Calls Try.prog 5 #[cdV c, .int .i64 left] w fun e w' => ∃ r, e = .returned (.int .i64 r) ∧ okC c left r ∧ Below w.heap.size w w' := by
  obtain ⟨id, ep, pin, tr, ix, dt⟩ := c
  dsimp only at hp hd
  have hp' := hp
  unfold maxLen at hp'
  unfold cdV okC
  dsimp only
  have HB : Hid (Below w.heap.size w (w.alloc (.cells #[.int .i64 id, .int .i64 ep, .string pin, .int .i64 tr, .int .i64 ix, .string dt] 25))) := albel w _
  by_cases hb : left < pin.size
  · go_enter Try.func5, Try.ntmps5
    go_wp2
    go_ret
    exact ⟨_, rfl, .inl (by omega), HB.out⟩
  · obtain ⟨l2, hl2⟩ : ∃ l2 : Int, left - (pin.size : Int) = l2 := ⟨_, rfl⟩
    have HS : Hid (∀ W, Calls Try.prog 12 #[.agg #[.int .i64 ix, .string dt], .int .i64 l2] W fun e w' => ∃ r, e = .returned (.int .i64 r) ∧ okOne dt l2 r ∧ Below W.heap.size W w') := fun W => szShare_any ix dt l2 W hd (by omega) (by omega)
    have hpl : (pin.size : Int) ≤ left := by omega
    have hw : IntKind.i64.wrap (left - (pin.size : Int)) = l2 := by rw [IntKind.wrap_i64]; omega
    go_enter Try.func5, Try.ntmps5
    go_wp2_with fail
    refine (HS.out _).mono ?_
    rintro e w2 ⟨r, rfl, hr, hb2⟩
    unfold okOne at hr
    have HB2 : Hid (Below w.heap.size w w2) := bel2 HB.out hb2
    clear hb2
    by_cases h0 : r < 0
    · go_wp2
      go_ret
      exact ⟨_, rfl, .inl (by omega), HB2.out⟩
    · have hr' : Hid (0 ≤ r ∧ r ≤ left ∧ (pin.size : Int) ≤ left ∧ (dt.size : Int) ≤ left) := by unfold Hid; omega
      go_wp2
      go_ret
      exact ⟨_, rfl, .inr hr'.out, HB2.out⟩
theorem kept6 {w w2 : World} {cs : Array Value} {T : TypeId} (hb : Below (w.heap.size + 1) (w.alloc (.cells cs T)) w2) (i : Nat) :
    w2.cell? ⟨w.heap.size, i, none⟩ = cs[i]? := by
  rw [hb.cell (p := ⟨w.heap.size, i, none⟩) (Nat.lt_succ_self _)]
  exact block_cell (heap_alloc_new w _) i
set_option maxRecDepth 100000 in
set_option maxHeartbeats 800000 in
theorem toCard_any (c : Cd) (w : World) :
    Calls Try.prog 7 #[cdV c] w fun e w' => e = .returned (cdV c) ∧ Below w.heap.size w w' := by
  obtain ⟨id, ep, pin, tr, ix, dt⟩ := c
  unfold cdV
  dsimp only
  go_enter Try.func7, Try.ntmps7
  go_wp2_with fail
  refine (toShare_any ix dt _).mono ?_
  rintro e w4 ⟨rfl, hb4⟩
  have c0 : w4.cell? ⟨w.heap.size + 1 + 1, 0, none⟩ = some (.int .i64 id) := by rw [hb4.cell (p := ⟨w.heap.size + 1 + 1, 0, none⟩) (by simp)]; simp [go_sem]
  have c1 : w4.cell? ⟨w.heap.size + 1 + 1, 1, none⟩ = some (.int .i64 ep) := by rw [hb4.cell (p := ⟨w.heap.size + 1 + 1, 1, none⟩) (by simp)]; simp [go_sem]
  have c2 : w4.cell? ⟨w.heap.size + 1 + 1, 2, none⟩ = some (.string pin) := by rw [hb4.cell (p := ⟨w.heap.size + 1 + 1, 2, none⟩) (by simp)]; simp [go_sem]
  have c3 : w4.cell? ⟨w.heap.size + 1 + 1, 3, none⟩ = some (.int .i64 tr) := by rw [hb4.cell (p := ⟨w.heap.size + 1 + 1, 3, none⟩) (by simp)]; simp [go_sem]
  have c4 : w4.cell? ⟨w.heap.size + 1 + 1, 4, none⟩ = some (.int .i64 0) := by rw [hb4.cell (p := ⟨w.heap.size + 1 + 1, 4, none⟩) (by simp)]; simp [go_sem]
  have c5 : w4.cell? ⟨w.heap.size + 1 + 1, 5, none⟩ = some (.string ⟨#[]⟩) := by rw [hb4.cell (p := ⟨w.heap.size + 1 + 1, 5, none⟩) (by simp)]; simp [go_sem]
  have r0 : w4.cell? ⟨w.heap.size + 1, 0, none⟩ = some (.int .i64 0) := by rw [hb4.cell (p := ⟨w.heap.size + 1, 0, none⟩) (by simp)]; simp [go_sem]
  have r1 : w4.cell? ⟨w.heap.size + 1, 1, none⟩ = some (.int .i64 0) := by rw [hb4.cell (p := ⟨w.heap.size + 1, 1, none⟩) (by simp)]; simp [go_sem]
  have r2 : w4.cell? ⟨w.heap.size + 1, 2, none⟩ = some (.string ⟨#[]⟩) := by rw [hb4.cell (p := ⟨w.heap.size + 1, 2, none⟩) (by simp)]; simp [go_sem]
  have r3 : w4.cell? ⟨w.heap.size + 1, 3, none⟩ = some (.int .i64 0) := by rw [hb4.cell (p := ⟨w.heap.size + 1, 3, none⟩) (by simp)]; simp [go_sem]
  have r4 : w4.cell? ⟨w.heap.size + 1, 4, none⟩ = some (.int .i64 0) := by rw [hb4.cell (p := ⟨w.heap.size + 1, 4, none⟩) (by simp)]; simp [go_sem]
  have r5 : w4.cell? ⟨w.heap.size + 1, 5, none⟩ = some (.string ⟨#[]⟩) := by rw [hb4.cell (p := ⟨w.heap.size + 1, 5, none⟩) (by simp)]; simp [go_sem]
  have cf : ∀ o, w4.frozen? ⟨w.heap.size + 1 + 1, o, none⟩ = false := fun o => by rw [hb4.frozen (p := ⟨w.heap.size + 1 + 1, o, none⟩) (by simp)]; simp [go_sem]
  have rf : ∀ o, w4.frozen? ⟨w.heap.size + 1, o, none⟩ = false := fun o => by rw [hb4.frozen (p := ⟨w.heap.size + 1, o, none⟩) (by simp)]; simp [go_sem]
  have HB : Hid (Below w.heap.size w w4) := ((((Below.refl _ _).alloc (Nat.le_refl _) _).alloc (by simp) _).alloc (by simp; omega) _).trans (hb4.mono (by simp; omega))
  clear hb4
  go_wp2
  exact bodyPost_ret (v := .agg #[.int .i64 id, .int .i64 ep, .string pin, .int .i64 tr, .int .i64 ix, .string dt]) (by simp [results, Try.results7, go_sem, r0, r1, r2, r3, r4, r5]) rfl ⟨rfl, ((((((((HB.out.setCell (by show w.heap.size ≤ w.heap.size + 1 + 1; omega) _).setCell (by show w.heap.size ≤ w.heap.size + 1 + 1; omega) _).setCell (by show w.heap.size ≤ w.heap.size + 1; omega) _).setCell (by show w.heap.size ≤ w.heap.size + 1; omega) _).setCell (by show w.heap.size ≤ w.heap.size + 1; omega) _).setCell (by show w.heap.size ≤ w.heap.size + 1; omega) _).setCell (by show w.heap.size ≤ w.heap.size + 1; omega) _).setCell (by show w.heap.size ≤ w.heap.size + 1; omega) _)⟩
end Go.Proofs.Ytgmejbnolfmcdab.N1
