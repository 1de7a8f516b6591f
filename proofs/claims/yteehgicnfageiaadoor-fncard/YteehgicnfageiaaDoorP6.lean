/-
  A card of so many tries, in memory of its own, in the program.
-/
import Derived.Test.YteehgicnfageiaaDoorP5
namespace Go.Proofs.YteehgicnfageiaaDoor.P6
open Go.RowKit
open Go.Proofs.YteehgicnfageiaaDoor.C0 Go.Proofs.YteehgicnfageiaaDoor.HB
open Go.Proofs.YteehgicnfageiaaDoor.N0 (Cd cdV cardB pinB)
open Go.Proofs.YteehgicnfageiaaDoor.P2
open Go.Proofs.YteehgicnfageiaaDoor.P5

theorem kept25 {W x : World} {g : Nat} {a b c d e f : Value} {T : TypeId} (k : W.heap[g]? = some (.cells #[a, b, c, d, e, f] T (0, 0))) (hx : Below W.heap.size W x) : x.cell? ⟨g, 2, none⟩ = some c ∧ x.cell? ⟨g, 5, none⟩ = some f :=
  ⟨block_cell (carry k hx) 2, block_cell (carry k hx) 5⟩
theorem kept25a {x : World} {g : Nat} {a b c d e f : Value} {T : TypeId} (k : x.heap[g]? = some (.cells #[a, b, c, d, e, f] T (0, 0))) : (x.setCell ⟨g, 2, none⟩ c).cell? ⟨g, 2, none⟩ = some c ∧ (x.setCell ⟨g, 2, none⟩ c).cell? ⟨g, 5, none⟩ = some f := by
  obtain ⟨p0, p1, p2, p3, p4, p5, pf⟩ := blk6 k
  constructor <;> simp [go_sem, p2, p5]
theorem kept25b {x : World} {g : Nat} {a b c d e f : Value} {T : TypeId} (k : x.heap[g]? = some (.cells #[a, b, c, d, e, f] T (0, 0))) : ((x.setCell ⟨g, 2, none⟩ c).setCell ⟨g, 5, none⟩ f).cell? ⟨g, 2, none⟩ = some c ∧ ((x.setCell ⟨g, 2, none⟩ c).setCell ⟨g, 5, none⟩ f).cell? ⟨g, 5, none⟩ = some f := by
  obtain ⟨p0, p1, p2, p3, p4, p5, pf⟩ := blk6 k
  constructor <;> simp [go_sem, p2, p5]
set_option maxRecDepth 100000 in
set_option maxHeartbeats 3200000 in
theorem tries_impl (id ep : Int) (pin : ByteArray) (tr ix : Int) (dt : ByteArray) (t : Int) (w : World) (hp : pin.size ≤ 4000000) (hd : dt.size ≤ 4000000) :
    Calls Tryd.prog 47 #[.agg #[.int .i64 id, .int .i64 ep, .string pin, .int .i64 tr, .int .i64 ix, .string dt], .int .i64 t] w fun e w' => e = .returned (.agg #[.int .i64 id, .int .i64 ep, .string pin, .int .i64 t, .int .i64 ix, .string dt]) ∧ Below w.heap.size w w' := by
  have hn := two_new w (.cells #[.int .i64 id, .int .i64 ep, .string pin, .int .i64 tr, .int .i64 ix, .string dt] 26) (.cells #[.int .i64 0, .int .i64 0, .string ⟨#[]⟩, .int .i64 0, .int .i64 0, .string ⟨#[]⟩] 26)
  have KC := hn.1
  have KR := hn.2.1
  have B0 := hn.2.2
  clear hn
  go_enter Tryd.func47, Tryd.ntmps47
  go_wp2_with fail
  obtain ⟨W, hW⟩ : ∃ W, (w.alloc (.cells #[.int .i64 id, .int .i64 ep, .string pin, .int .i64 tr, .int .i64 ix, .string dt] 26)).alloc (.cells #[.int .i64 0, .int .i64 0, .string ⟨#[]⟩, .int .i64 0, .int .i64 0, .string ⟨#[]⟩] 26) = W := ⟨_, rfl⟩
  rw [hW] at KC KR B0
  try rw [hW]
  clear hW
  have KCH : Hid _ := KC
  have KRH : Hid _ := KR
  have BH : Hid (Below w.heap.size w W) := B0
  obtain ⟨q0, q1, q2, q3, q4, q5, qf⟩ := blk6 KC
  clear KC KR B0
  go_region_held3 (fun x => x.cell? ⟨w.heap.size, 2, none⟩ = some (.string pin) ∧ x.cell? ⟨w.heap.size, 5, none⟩ = some (.string dt))
    (first
      | (with_reducible exact kept25 KCH.out (Below.refl _ _).drew)
      | (with_reducible exact kept25 KCH.out (albel _ _).drew)
      | (with_reducible exact kept25 KCH.out (two_new _ _ _).2.2.drew)
      | (with_reducible exact kept25 KCH.out BM)
      | (with_reducible exact kept25 KCH.out BN)
      | (with_reducible exact kept25 KCH.out (bel2 BN (albel _ _)))
      | (with_reducible exact kept25a KM)
      | (with_reducible exact kept25b KM)
      | go_keep)
    (first
      | (go_at_call 48
         refine (joined_at _ 1 pin _ ?_ hp).mono ?_
         first | exact heap_alloc_new _ _ | exact (two_new _ _ _).1 | exact (two_new _ _ _).2.1
         rintro e wn ⟨rfl, hbn⟩
         have BN : Below W.heap.size W wn := (by first | exact bl1 hbn | exact bl2 hbn)
         first
           | (have KD := carry (two_new W (.cells #[.string pin] 9) (.cells #[.string dt] 9)).2.1 (undrew hbn))
           | (have KD := carry (two_new W (.cells #[.string dt] 9) (.cells #[.string pin] 9)).1 (undrew hbn))
           | skip
         clear hbn)
      | (go_at_call 48
         refine (joined_at _ 1 dt _ ?_ hd).mono ?_
         first | exact KD | exact heap_alloc_new _ _
         rintro e wm ⟨rfl, hbm⟩
         have BM : Below W.heap.size W wm := (by first | exact bel2 BN hbm | exact bel2 BN (bel2 (albel _ _) hbm))
         have KM := carry KCH.out BM
         obtain ⟨p0, p1, p2, p3, p4, p5, pf⟩ := blk6 KM
         obtain ⟨r0, r1, r2, r3, r4, r5, rf⟩ := blk6 (carry KRH.out BM)
         clear hbm))
  all_goals
    have B9 : Hid (Below w.heap.size w wm) := bel2 BH.out BM
    go_wp2
    exact bodyPost_ret (v := .agg #[.int .i64 id, .int .i64 ep, .string pin, .int .i64 t, .int .i64 ix, .string dt]) (by simp [results, Tryd.results47, go_sem, r0, r1, r2, r3, r4, r5]) rfl ⟨rfl, set6 (((B9.out.setCell (by simp) _).setCell (by simp) _).setCell (by simp) _) (by omega) _ _ _ _ _ _⟩
end Go.Proofs.YteehgicnfageiaaDoor.P6
