/-
  The laws' own measure, copy and comparing of a line.
-/
import Derived.Test.YtkpjdmmgdmbmnaaDoorA6
import Derived.Test.YtkpjdmmgdmbmnaaDoorA4
namespace Go.Proofs.YtkpjdmmgdmbmnaaDoor.A7
open Go.RowKit
open Go.Proofs.YtkpjdmmgdmbmnaaDoor.C0 Go.Proofs.YtkpjdmmgdmbmnaaDoor.HB
open Go.Proofs.YtkpjdmmgdmbmnaaDoor.A0 Go.Proofs.YtkpjdmmgdmbmnaaDoor.A1 Go.Proofs.YtkpjdmmgdmbmnaaDoor.A4 Go.Proofs.YtkpjdmmgdmbmnaaDoor.A6
/-- What a measure that has not run out says of a line. -/
def okLn (x : Ln) (left r : Int) : Prop := r < 0 ∨ (0 ≤ r ∧ r ≤ left ∧ (x.name.size : Int) ≤ left ∧ (x.sum.size : Int) ≤ left ∧ (x.cards.length : Int) ≤ left)
set_option maxRecDepth 100000 in
set_option maxHeartbeats 800000 in
theorem szLine_any (x : Ln) (vc : Value) (left : Int) (w : World) (hv : IRow w vc x.cards) (hx : LnW x) (h0 : 0 ≤ left) (h1 : left ≤ 1048576) :
    Calls Tryd.prog 28 #[lnV x vc, .int .i64 left] w fun e w' => ∃ r, e = .returned (.int .i64 r) ∧ okLn x left r ∧ Below w.heap.size w w' := by
  obtain ⟨kind, name, sum, cs⟩ := x
  obtain ⟨hn, hs, _, _⟩ := hx
  unfold lnV
  dsimp only at hv hn hs ⊢
  unfold maxLen at hn hs
  have HB : Hid (Below w.heap.size w (w.alloc (.cells #[.int .i64 kind, .string name, .string sum, vc] 52))) := albel w _
  have hiv : Hid (IRow w vc cs) := hv
  obtain ⟨a, cap, rfl, _, _⟩ := hv
  by_cases hb : left < name.size
  · go_enter Tryd.func28, Tryd.ntmps28
    go_wp2
    go_ret
    exact ⟨_, rfl, by unfold okLn; dsimp only; omega, HB.out⟩
  · have hw : IntKind.i64.wrap (left - (name.size : Int)) = left - (name.size : Int) := by rw [IntKind.wrap_i64]; omega
    obtain ⟨l2, hl2⟩ : ∃ l2 : Int, left - (name.size : Int) = l2 := ⟨_, rfl⟩
    rw [hl2] at hw
    by_cases hb2 : l2 < sum.size
    · go_enter Tryd.func28, Tryd.ntmps28
      go_wp2
      go_ret
      exact ⟨_, rfl, by unfold okLn; dsimp only; omega, HB.out⟩
    · have hw2 : IntKind.i64.wrap (l2 - (sum.size : Int)) = l2 - (sum.size : Int) := by rw [IntKind.wrap_i64]; omega
      obtain ⟨l3, hl3⟩ : ∃ l3 : Int, l2 - (sum.size : Int) = l3 := ⟨_, rfl⟩
      rw [hl3] at hw2
      have HS : Hid (∀ W, Below w.heap.size w W → Calls Tryd.prog 69 #[.slice a cs.length cap, .int .i64 l3] W fun e w' => ∃ r, e = .returned (.int .i64 r) ∧ (r < 0 ∨ (0 ≤ r ∧ r ≤ l3 ∧ (cs.length : Int) ≤ l3)) ∧ W = w') := fun W hW => szInts_any _ cs l3 W (hiv.out.below hW) (by omega) (by omega)
      go_enter Tryd.func28, Tryd.ntmps28
      go_wp2_with fail
      refine (HS.out _ HB.out).mono ?_
      rintro e w2 ⟨r, rfl, hr, rfl⟩
      by_cases h0 : r < 0
      · go_wp2
        go_ret
        exact ⟨_, rfl, by unfold okLn; dsimp only; omega, HB.out⟩
      · go_wp2
        go_ret
        exact ⟨_, rfl, by unfold okLn; dsimp only; omega, HB.out⟩
set_option maxRecDepth 100000 in
set_option maxHeartbeats 800000 in
theorem eqLine_same (x : Ln) (vc vd : Value) (w : World) (hv : IRow w vc x.cards) (hu : IRow w vd x.cards) :
    Calls Tryd.prog 31 #[lnV x vc, lnV x vd] w fun e w' => e = .returned (.bool true) ∧ Below w.heap.size w w' := by
  obtain ⟨kind, name, sum, cs⟩ := x
  unfold lnV
  dsimp only at hv hu ⊢
  have hnn : (name.toList == name.toList) = true := by simp
  have hss : (sum.toList == sum.toList) = true := by simp
  have HE : Hid (∀ W, Below w.heap.size w W → Calls Tryd.prog 71 #[vc, vd] W fun e w' => e = .returned (.bool true) ∧ Below W.heap.size W w') := fun W hW => eqInts_any vc vd cs W (hv.below hW) (hu.below hW)
  have HB : Hid (Below w.heap.size w ((w.alloc (.cells #[.int .i64 kind, .string name, .string sum, vc] 29)).alloc (.cells #[.int .i64 kind, .string name, .string sum, vd] 29))) := ((Below.refl _ _).alloc (Nat.le_refl _) _).alloc (by simp) _
  obtain ⟨a, cap, rfl, _, _⟩ := hv
  obtain ⟨a2, cap2, rfl, _, _⟩ := hu
  go_enter Tryd.func31, Tryd.ntmps31
  go_wp2_with fail
  refine (HE.out _ HB.out).mono ?_
  rintro e w1 ⟨rfl, hb1⟩
  have HB2 : Hid (Below w.heap.size w w1) := bel2 HB.out hb1
  clear hb1
  go_wp2
  go_ret
  exact ⟨rfl, HB2.out⟩
theorem own_mono {B B' : Nat} {e : TypeId} {sz n : Nat} {xs : List Value} {w : World} {v : Value} (h : w.ownsRow B e sz v n xs) (hb : B' ≤ B) : w.ownsRow B' e sz v n xs := by
  refine ⟨h.1, ?_⟩
  rcases h.2 with hn | ⟨g, cap, cur, rfl, hb', rest⟩
  · exact .inl hn
  · exact .inr ⟨g, cap, cur, rfl, by omega, rest⟩
theorem own_set {B b j : Nat} {u : Value} {w : World} {v : Value} {l : List Int} (h : OIRow B w v l) (hb : b < B) : OIRow B (w.setCell ⟨b, j, none⟩ u) v l :=
  own_keep h fun g hg => heap_setCell_other _ _ _ _ (by have := (h.lt g hg).1; show g ≠ b; omega)
set_option maxRecDepth 100000 in
set_option maxHeartbeats 800000 in
theorem toLine_any (x : Ln) (vc : Value) (w : World) (hv : IRow w vc x.cards) (hz : x.cards.length ≤ 1048576) :
    Calls Tryd.prog 29 #[lnV x vc] w fun e w' => ∃ vd, e = .returned (lnV x vd) ∧ OIRow w.heap.size w' vd x.cards ∧ Below w.heap.size w w' := by
  obtain ⟨kind, name, sum, cs⟩ := x
  unfold lnV
  dsimp only at hv hz ⊢
  have HT : Hid (∀ W, Below w.heap.size w W → Calls Tryd.prog 70 #[vc] W fun e w' => ∃ a cap, e = .returned (.slice a cs.length cap) ∧ OIRow W.heap.size w' (.slice a cs.length cap) cs ∧ Below W.heap.size W w') := fun W hW => toInts_any vc cs W (hv.below hW) hz
  obtain ⟨a, cap, rfl, _, _⟩ := hv
  go_enter Tryd.func29, Tryd.ntmps29
  go_wp2_with fail
  refine (HT.out _ (((albel w _).alloc (by simp) _).alloc (by simp; omega) _)).mono ?_
  rintro e w4 ⟨a2, cap2, rfl, ho, hb4⟩
  have c0 : w4.cell? ⟨w.heap.size + 1 + 1, 0, none⟩ = some (.int .i64 kind) := by rw [hb4.cell (p := ⟨w.heap.size + 1 + 1, 0, none⟩) (by simp)]; simp [go_sem]
  have c1 : w4.cell? ⟨w.heap.size + 1 + 1, 1, none⟩ = some (.string name) := by rw [hb4.cell (p := ⟨w.heap.size + 1 + 1, 1, none⟩) (by simp)]; simp [go_sem]
  have c2 : w4.cell? ⟨w.heap.size + 1 + 1, 2, none⟩ = some (.string sum) := by rw [hb4.cell (p := ⟨w.heap.size + 1 + 1, 2, none⟩) (by simp)]; simp [go_sem]
  have c3 : w4.cell? ⟨w.heap.size + 1 + 1, 3, none⟩ = some (.slice none 0 0) := by rw [hb4.cell (p := ⟨w.heap.size + 1 + 1, 3, none⟩) (by simp)]; simp [go_sem]
  have r0 : w4.cell? ⟨w.heap.size + 1, 0, none⟩ = some (.int .i64 0) := by rw [hb4.cell (p := ⟨w.heap.size + 1, 0, none⟩) (by simp)]; simp [go_sem]
  have r1 : w4.cell? ⟨w.heap.size + 1, 1, none⟩ = some (.string ⟨#[]⟩) := by rw [hb4.cell (p := ⟨w.heap.size + 1, 1, none⟩) (by simp)]; simp [go_sem]
  have r2 : w4.cell? ⟨w.heap.size + 1, 2, none⟩ = some (.string ⟨#[]⟩) := by rw [hb4.cell (p := ⟨w.heap.size + 1, 2, none⟩) (by simp)]; simp [go_sem]
  have r3 : w4.cell? ⟨w.heap.size + 1, 3, none⟩ = some (.slice none 0 0) := by rw [hb4.cell (p := ⟨w.heap.size + 1, 3, none⟩) (by simp)]; simp [go_sem]
  have cf : ∀ o, w4.frozen? ⟨w.heap.size + 1 + 1, o, none⟩ = false := fun o => by rw [hb4.frozen (p := ⟨w.heap.size + 1 + 1, o, none⟩) (by simp)]; simp [go_sem]
  have rf : ∀ o, w4.frozen? ⟨w.heap.size + 1, o, none⟩ = false := fun o => by rw [hb4.frozen (p := ⟨w.heap.size + 1, o, none⟩) (by simp)]; simp [go_sem]
  have HB : Hid (Below w.heap.size w w4) := ((((Below.refl _ _).alloc (Nat.le_refl _) _).alloc (by simp) _).alloc (by simp; omega) _).trans (hb4.mono (by simp; omega))
  have HO : Hid (OIRow (w.heap.size + 1 + 1 + 1) w4 (.slice a2 cs.length cap2) cs) := by unfold Hid; simpa using ho
  clear hb4 ho
  go_wp2
  refine bodyPost_ret (v := .agg #[.int .i64 kind, .string name, .string sum, .slice a2 cs.length cap2]) (by simp [results, Tryd.results29, go_sem, r0, r1, r2, r3]) rfl ⟨_, rfl, ?_, ?_⟩
  · exact own_mono (own_set (own_set (own_set (own_set (own_set HO.out (by omega)) (by omega)) (by omega)) (by omega)) (by omega)) (by omega)
  · exact (((((HB.out.setCell (by show w.heap.size ≤ w.heap.size + 1 + 1; omega) _).setCell (by show w.heap.size ≤ w.heap.size + 1; omega) _).setCell (by show w.heap.size ≤ w.heap.size + 1; omega) _).setCell (by show w.heap.size ≤ w.heap.size + 1; omega) _).setCell (by show w.heap.size ≤ w.heap.size + 1; omega) _)
end Go.Proofs.YtkpjdmmgdmbmnaaDoor.A7
