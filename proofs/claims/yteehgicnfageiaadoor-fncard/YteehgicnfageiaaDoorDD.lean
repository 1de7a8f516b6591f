/-
  The draws of the cards' calls.
-/
import Derived.Test.YteehgicnfageiaaDoorDC
import Derived.Test.YteehgicnfageiaaDoorPX
import Derived.Test.YteehgicnfageiaaDoorBK
namespace Go.Proofs.YteehgicnfageiaaDoor.DD
open Go.RowKit
open Go.Proofs.YteehgicnfageiaaDoor.C0 Go.Proofs.YteehgicnfageiaaDoor.D0 Go.Proofs.YteehgicnfageiaaDoor.HB Go.Proofs.YteehgicnfageiaaDoor.DS Go.Proofs.YteehgicnfageiaaDoor.DX Go.Proofs.YteehgicnfageiaaDoor.DC
open Go.Proofs.YteehgicnfageiaaDoor.N0 (Cd cdV)
open Go.Proofs.YteehgicnfageiaaDoor.Q3 (heap_set)

set_option maxRecDepth 100000 in
set_option maxHeartbeats 1600000 in
theorem bytes_draw (v : Value) (n : Nat) (w : World) (hc : IsCode w.heap.size w v n) :
    Calls Tryd.prog 14 #[v] w fun e w' => ∃ c : Cd, e = .returned (cdV c) ∧ CokN 100 c ∧ Below w.heap.size w w' := by
  unfold cdV
  go_enter Tryd.func14, Tryd.ntmps14
  go_wp2_with fail
  refine (sourceA v n w _ hc).mono ?_
  rintro e w1 ⟨rfl, d1, b1⟩
  have z1 := b1.size
  rw [asz] at z1
  have kR : w1.heap[w.heap.size]? = some (.cells #[.int .i64 0, .int .i64 0, .string ⟨#[]⟩, .int .i64 0, .int .i64 0, .string ⟨#[]⟩] 26) := (b1.block _ (Nat.lt_succ_self _)).trans (heap_alloc_new w _)
  have HB1 : Below w.heap.size w w1 := (albel w _).trans (b1.mono (Nat.le_succ _))
  go_wp2_with fail
  refine (card_draw d1).mono ?_
  rintro e w2 ⟨⟨c0, c1, c2, c3, c4, c5⟩, rfl, hok, d2, g2⟩
  have kR2 := DS.carryG kR g2 (by omega)
  have HB2 : Hid (Below w.heap.size w w2) := HB1.trans (grown_below g2 (by omega) HB1.size)
  obtain ⟨r0, r1, r2, r3, r4, r5, rf⟩ := P2.blk6 kR2
  have HOK : Hid _ := hok
  clear kR kR2 HB1 b1 d1 d2 g2 hok
  unfold cdV
  dsimp only
  go_wp2
  exact bodyPost_ret (v := .agg #[.int .i64 c0, .int .i64 c1, .string c2, .int .i64 c3, .int .i64 c4, .string c5]) (by simp [results, Tryd.results14, go_sem, r0, r1, r2, r3, r4, r5]) rfl ⟨⟨c0, c1, c2, c3, c4, c5⟩, rfl, HOK.out, PX.set6 HB2.out (Nat.le_refl _) _ _ _ _ _ _⟩
set_option maxRecDepth 100000 in
set_option maxHeartbeats 3200000 in
theorem new_draw (v : Value) (n : Nat) (w : World) (hc : IsCode w.heap.size w v n) :
    Calls Tryd.prog 12 #[v] w fun e w' => ∃ (id ep : Int) (pin : ByteArray) (ix : Int) (dt : ByteArray), e = .returned (.tuple #[.int .i64 id, .int .i64 ep, .string pin, .agg #[.int .i64 ix, .string dt]]) ∧
      (-9223372036854775808 ≤ id ∧ id ≤ 9223372036854775807) ∧ (-9223372036854775808 ≤ ep ∧ ep ≤ 9223372036854775807) ∧ pin.size ≤ 9 ∧ dt.size ≤ 9 ∧ Below w.heap.size w w' := by
  go_enter Tryd.func12, Tryd.ntmps12
  go_wp2_with fail
  refine (sourceA v n w _ hc).mono ?_
  rintro e w1 ⟨rfl, d1, b1⟩
  have z1 := b1.size
  rw [asz] at z1
  have kR : w1.heap[w.heap.size]? = some (.cells #[.int .i64 0, .string ⟨#[]⟩] 24) := (b1.block _ (Nat.lt_succ_self _)).trans (heap_alloc_new w _)
  have HB1 : Below w.heap.size w w1 := (albel w _).trans (b1.mono (Nat.le_succ _))
  go_wp2_with fail
  refine (drawN 6 d1 (by omega) (by omega)).mono ?_
  rintro e w2 ⟨q, rfl, hq, d2, g2⟩
  have hw1 : IntKind.i64.wrap (1 + (q : Int)) = 1 + (q : Int) := by rw [IntKind.wrap_i64]; omega
  go_wp2_with fail
  refine (pin_draw d2).mono ?_
  rintro e w3 ⟨pin, rfl, hp, d3, g3⟩
  go_wp2_with fail
  refine (drawN 7 d3 (by omega) (by omega)).mono ?_
  rintro e w4 ⟨r, rfl, hr, d4, g4⟩
  have G4 := grown_trans (grown_trans g2 g3) g4
  have hd1 : (⟨#[100]⟩ : ByteArray).size ≤ 9 := by decide
  have kR4 := DS.carryG kR G4 (by omega)
  go_wp2_with fail
  refine (drawOne 12 (d4.alloc _) (by omega) (by omega)).mono ?_
  rintro e w5 ⟨b, rfl, d5, g5⟩
  have kS5 := DS.carryG (heap_alloc_new w4 (.cells #[.int .i64 (r : Nat), .string ⟨#[100]⟩] 24)) g5 (by have := d4.lt; omega)
  have kR5 := DS.carryG (carryA kR4 _) g5 (by omega)
  have HB5 : Below w.heap.size w w5 := HB1.trans (grown_below (grown_trans G4 (grown_trans (World.grownBy_alloc w4 _ _) g5)) (by omega) HB1.size)
  have hl5 : w4.heap.size < w5.heap.size := lt_some kS5
  have hp4 := d4.lt
  clear d1 d2 d3 d4 g2 g3 g4 g5 G4 kR kR4 b1 HB1 hw1
  obtain ⟨x0, x1⟩ := P2.blk2c kS5
  cases b with
  | true =>
    go_wp2_with fail
    go_region_with (first
      | (go_at_call 49; refine (drawN 9 d5.drew (by omega) (by omega)).mono ?_; rintro e w6 ⟨k, rfl, hk, d6, g6'⟩; have g6 := grown_trans (grown_drew (grown_refl w5 (some (w.heap.size + 1)))) g6'; clear g6'; have kS6 := DS.carryG kS5 g6 (by omega); have kR6 := DS.carryG kR5 g6 (by omega); obtain ⟨s0, s1⟩ := P2.blk2c kS6; have hwk : IntKind.i64.wrap ((k : Int) - 1) = (k : Int) - 1 := (by rw [IntKind.wrap_i64]; omega))
      | (go_at_call 50; refine (D2.edge_any (w.heap.size + 1) (w.heap.size + 1) n v _ d6.src d6.code d6.le).mono ?_; rintro e w7 ⟨z, rfl, hz1, hz2, hs7, g7⟩; have kS7 := DS.carryG kS6 g7 (by omega); have kR7 := DS.carryG kR6 g7 (by omega); obtain ⟨t0, t1⟩ := P2.blk2c kS7; obtain ⟨r0, r1, rf⟩ := BK.blk2f kR7))
    all_goals
      have HB7 : Hid (Below w.heap.size w w7) := HB5.trans (grown_below (grown_trans g6 g7) (by omega) HB5.size)
      clear kS5 kR5 kS6 kR6 kS7 kR7 g6 g7 d6 hs7 HB5
      go_wp2
      exact bodyPost_ret (v := .tuple #[.int .i64 ((k : Int) - 1), .int .i64 z, .string pin, .agg #[.int .i64 (r : Nat), .string ⟨#[100]⟩]]) (by simp [results, Tryd.results12, go_sem, r0, r1]) rfl ⟨_, _, _, _, _, rfl, by omega, by omega, hp, hd1, (HB7.out.setCell (by simp) _).setCell (by simp) _⟩
  | false =>
    go_wp2_with fail
    go_region_with (first
      | (go_at_call 49; refine (drawN 5 d5.drew (by omega) (by omega)).mono ?_; rintro e w6 ⟨k, rfl, hk, d6, g6'⟩; have g6 := grown_trans (grown_drew (grown_refl w5 (some (w.heap.size + 1)))) g6'; clear g6'; have kS6 := DS.carryG kS5 g6 (by omega); have kR6 := DS.carryG kR5 g6 (by omega); obtain ⟨s0, s1⟩ := P2.blk2c kS6; obtain ⟨r0, r1, rf⟩ := BK.blk2f kR6))
    all_goals
      have HB7 : Hid (Below w.heap.size w w6) := HB5.trans (grown_below g6 (by omega) HB5.size)
      clear kS5 kR5 kS6 kR6 g6 d6 HB5
      go_wp2
      exact bodyPost_ret (v := .tuple #[.int .i64 (1 + (q : Int)), .int .i64 (k : Nat), .string pin, .agg #[.int .i64 (r : Nat), .string ⟨#[100]⟩]]) (by simp [results, Tryd.results12, go_sem, r0, r1]) rfl ⟨_, _, _, _, _, rfl, by omega, by omega, hp, hd1, (HB7.out.setCell (by simp) _).setCell (by simp) _⟩
end Go.Proofs.YteehgicnfageiaaDoor.DD
