/-
  The draws of CardTry, CardPin and CardRead.
-/
import Derived.Test.YteehgicnfageiaaDoorDD
import Derived.Test.YteehgicnfageiaaDoorN4
namespace Go.Proofs.YteehgicnfageiaaDoor.DE
open Go.RowKit
open Go.Proofs.YteehgicnfageiaaDoor.C0 Go.Proofs.YteehgicnfageiaaDoor.D0 Go.Proofs.YteehgicnfageiaaDoor.HB Go.Proofs.YteehgicnfageiaaDoor.DS Go.Proofs.YteehgicnfageiaaDoor.DX Go.Proofs.YteehgicnfageiaaDoor.DC
open Go.Proofs.YteehgicnfageiaaDoor.N0 (Cd cdV cardB)
open Go.Proofs.YteehgicnfageiaaDoor.N2 (cardBytes cardT)
open Go.Proofs.YteehgicnfageiaaDoor.N4 (opK opened_eq)
open Go.Proofs.YteehgicnfageiaaDoor.Q3 (heap_set)

theorem set6a {w w1 : World} {B : Nat} (h : Below w.heap.size w w1) (hB : w.heap.size ≤ B) (a b c d e f : Value) (o : Obj) :
    Below w.heap.size w (((((((w1.setCell ⟨B, 0, none⟩ a).setCell ⟨B, 1, none⟩ b).setCell ⟨B, 2, none⟩ c).setCell ⟨B, 3, none⟩ d).setCell ⟨B, 4, none⟩ e).setCell ⟨B, 5, none⟩ f).alloc o).drew :=
  ((PX.set6 h hB a b c d e f).alloc (PX.set6 h hB a b c d e f).size _).drew
set_option maxRecDepth 100000 in
set_option maxHeartbeats 3200000 in
theorem try_draw (v : Value) (n : Nat) (w : World) (hc : IsCode w.heap.size w v n) :
    Calls Tryd.prog 8 #[v] w fun e w' => ∃ (c : Cd) (pin : ByteArray), e = .returned (.tuple #[cdV c, .string pin]) ∧ CokN 100 c ∧ pin.size ≤ 9 ∧ Below w.heap.size w w' := by
  unfold cdV
  go_enter Tryd.func8, Tryd.ntmps8
  go_wp2_with fail
  refine (sourceA v n w _ hc).mono ?_
  rintro e w1 ⟨rfl, d1, b1⟩
  have z1 := b1.size
  rw [asz] at z1
  have kR : w1.heap[w.heap.size]? = some (.cells #[.int .i64 0, .int .i64 0, .string ⟨#[]⟩, .int .i64 0, .int .i64 0, .string ⟨#[]⟩] 26) := (b1.block _ (Nat.lt_succ_self _)).trans (heap_alloc_new w _)
  have HB1 : Below w.heap.size w w1 := (albel w _).trans (b1.mono (Nat.le_succ _))
  go_wp2_with fail
  refine (card_draw d1).mono ?_
  rintro e w2 ⟨⟨c0, c1, c2, c3, c4, c5⟩, rfl, hok, d2, g2⟩
  have HOK : Hid _ := hok
  unfold cdV
  dsimp only
  have kR2 := carryA (DS.carryG kR g2 (by omega)) (.cells #[.int .i64 c0, .int .i64 c1, .string c2, .int .i64 c3, .int .i64 c4, .string c5] 26)
  have kC2 := heap_alloc_new w2 (.cells #[.int .i64 c0, .int .i64 c1, .string c2, .int .i64 c3, .int .i64 c4, .string c5] 26)
  have hl2 := d2.lt
  have D2 := d2.alloc (.cells #[.int .i64 c0, .int .i64 c1, .string c2, .int .i64 c3, .int .i64 c4, .string c5] 26)
  have HB2 : Below w.heap.size w (w2.alloc (.cells #[.int .i64 c0, .int .i64 c1, .string c2, .int .i64 c3, .int .i64 c4, .string c5] 26)) := bel2 (HB1.trans (grown_below g2 (by omega) HB1.size)) (albel _ _)
  clear kR HB1 b1 d1 d2 g2 hok z1
  go_upto_region 3 with fail
  generalize w2.alloc (.cells #[.int .i64 c0, .int .i64 c1, .string c2, .int .i64 c3, .int .i64 c4, .string c5] 26) = x2 at *
  obtain ⟨g, hg⟩ : ∃ g, w2.heap.size = g := ⟨_, rfl⟩
  rw [hg] at kC2 hl2
  (try rw [hg])
  clear hg
  obtain ⟨f0, f1, f2, f3, f4, f5, ff⟩ := P2.blk6 kC2
  go_wp2_with fail
  refine (drawOne 2 D2 (by omega) (by omega)).mono ?_
  rintro e w3 ⟨b, rfl, d3, g3⟩
  have kR3 := DS.carryG kR2 g3 (by omega)
  have kC3 := DS.carryG kC2 g3 (by omega)
  have HB3 : Below w.heap.size w w3 := HB2.trans (grown_below g3 (by omega) HB2.size)
  clear kR2 kC2 HB2 D2 g3 f0 f1 f2 f3 f4 f5 ff
  obtain ⟨f0, f1, f2, f3, f4, f5, ff⟩ := P2.blk6 kC3
  obtain ⟨s0, s1, s2, s3, s4, s5, sf⟩ := P2.blk6 kR3
  cases b with
  | false =>
    go_wp2_with fail
    go_region_with (first
      | (go_at_call 45; refine (pin_draw d3.drew).mono ?_; rintro e w4 ⟨pin, rfl, hp, d4, g4'⟩; have g4 := grown_trans (grown_drew (grown_refl w3 (some (w.heap.size + 1)))) g4'; clear g4'; have kR4 := DS.carryG kR3 g4 (by omega); have kC4 := DS.carryG kC3 g4 (by omega); obtain ⟨r0, r1, r2, r3, r4, r5, rf⟩ := P2.blk6 kR4; obtain ⟨y0, y1, y2, y3, y4, y5, yf⟩ := P2.blk6 kC4))
    all_goals
      have HB4 : Hid (Below w.heap.size w w4) := HB3.trans (grown_below g4 (by omega) HB3.size)
      clear kR3 kC3 kR4 kC4 d4 g4 HB3 d3
      go_wp2
      exact bodyPost_ret (v := .tuple #[.agg #[.int .i64 c0, .int .i64 c1, .string c2, .int .i64 c3, .int .i64 c4, .string c5], .string pin]) (by simp [results, Tryd.results8, go_sem, r0, r1, r2, r3, r4, r5]) rfl ⟨⟨c0, c1, c2, c3, c4, c5⟩, pin, rfl, HOK.out, hp, PX.set6 HB4.out (Nat.le_refl _) _ _ _ _ _ _⟩
  | true =>
    by_cases h1 : 1 ≤ c0
    · have t1 : decide (1 ≤ c0) = true := decide_eq_true h1
      by_cases h3 : c0 ≤ 3
      · have t2 : decide (c0 ≤ 3) = true := decide_eq_true h3
        have HB4 : Hid (Below w.heap.size w w3) := HB3
        have lR := lt_some kR3
        have lC := lt_some kC3
        have hcase : c0 = 1 ∨ c0 = 2 ∨ c0 = 3 := by omega
        have hw0 : IntKind.i64.wrap 0 = 0 := by decide
        have hw1 : IntKind.i64.wrap 1 = 1 := by decide
        have hw2 : IntKind.i64.wrap 2 = 2 := by decide
        have KR3 : Hid _ := kR3
        clear kR3 kC3 d3 HB3
        rcases hcase with rfl | rfl | rfl
        · clear h1 h3 t1 t2
          go_wp2_with fail
          go_region
          all_goals
            have kX : ((((((((w3.setCell ⟨w.heap.size, 0, none⟩ (.int .i64 1)).setCell ⟨w.heap.size, 1, none⟩ (.int .i64 c1)).setCell ⟨w.heap.size, 2, none⟩ (.string c2)).setCell ⟨w.heap.size, 3, none⟩ (.int .i64 c3)).setCell ⟨w.heap.size, 4, none⟩ (.int .i64 c4)).setCell ⟨w.heap.size, 5, none⟩ (.string c5)).alloc (.cells #[.string ⟨#[49, 49, 49, 49]⟩, .string ⟨#[50, 50, 50, 50]⟩, .string ⟨#[51, 51, 51, 51]⟩] 9)).drew).heap[w.heap.size]? = some (.cells #[.int .i64 1, .int .i64 c1, .string c2, .int .i64 c3, .int .i64 c4, .string c5] 26 (0, 0)) := carryA (heap_set (heap_set (heap_set (heap_set (heap_set (heap_set KR3.out (by simp)) (by simp)) (by simp)) (by simp)) (by simp)) (by simp)) _
            have HX : Hid (Below w.heap.size w ((((((((w3.setCell ⟨w.heap.size, 0, none⟩ (.int .i64 1)).setCell ⟨w.heap.size, 1, none⟩ (.int .i64 c1)).setCell ⟨w.heap.size, 2, none⟩ (.string c2)).setCell ⟨w.heap.size, 3, none⟩ (.int .i64 c3)).setCell ⟨w.heap.size, 4, none⟩ (.int .i64 c4)).setCell ⟨w.heap.size, 5, none⟩ (.string c5)).alloc (.cells #[.string ⟨#[49, 49, 49, 49]⟩, .string ⟨#[50, 50, 50, 50]⟩, .string ⟨#[51, 51, 51, 51]⟩] 9)).drew)) := set6a HB4.out (Nat.le_refl _) _ _ _ _ _ _ _
            generalize (((((((w3.setCell ⟨w.heap.size, 0, none⟩ (.int .i64 1)).setCell ⟨w.heap.size, 1, none⟩ (.int .i64 c1)).setCell ⟨w.heap.size, 2, none⟩ (.string c2)).setCell ⟨w.heap.size, 3, none⟩ (.int .i64 c3)).setCell ⟨w.heap.size, 4, none⟩ (.int .i64 c4)).setCell ⟨w.heap.size, 5, none⟩ (.string c5)).alloc (.cells #[.string ⟨#[49, 49, 49, 49]⟩, .string ⟨#[50, 50, 50, 50]⟩, .string ⟨#[51, 51, 51, 51]⟩] 9)).drew = X at *
            clear s0 s1 s2 s3 s4 s5 sf f0 f1 f2 f3 f4 f5 ff
            obtain ⟨u0, u1, u2, u3, u4, u5, uf⟩ := P2.blk6 kX
            clear kX
            go_wp2
            exact bodyPost_ret (v := .tuple #[.agg #[.int .i64 1, .int .i64 c1, .string c2, .int .i64 c3, .int .i64 c4, .string c5], .string ⟨#[49, 49, 49, 49]⟩]) (by simp [results, Tryd.results8, go_sem, u0, u1, u2, u3, u4, u5]) rfl ⟨⟨1, c1, c2, c3, c4, c5⟩, _, rfl, HOK.out, by decide, HX.out⟩
        · clear h1 h3 t1 t2
          go_wp2_with fail
          go_region
          all_goals
            have kX : ((((((((w3.setCell ⟨w.heap.size, 0, none⟩ (.int .i64 2)).setCell ⟨w.heap.size, 1, none⟩ (.int .i64 c1)).setCell ⟨w.heap.size, 2, none⟩ (.string c2)).setCell ⟨w.heap.size, 3, none⟩ (.int .i64 c3)).setCell ⟨w.heap.size, 4, none⟩ (.int .i64 c4)).setCell ⟨w.heap.size, 5, none⟩ (.string c5)).alloc (.cells #[.string ⟨#[49, 49, 49, 49]⟩, .string ⟨#[50, 50, 50, 50]⟩, .string ⟨#[51, 51, 51, 51]⟩] 9)).drew).heap[w.heap.size]? = some (.cells #[.int .i64 2, .int .i64 c1, .string c2, .int .i64 c3, .int .i64 c4, .string c5] 26 (0, 0)) := carryA (heap_set (heap_set (heap_set (heap_set (heap_set (heap_set KR3.out (by simp)) (by simp)) (by simp)) (by simp)) (by simp)) (by simp)) _
            have HX : Hid (Below w.heap.size w ((((((((w3.setCell ⟨w.heap.size, 0, none⟩ (.int .i64 2)).setCell ⟨w.heap.size, 1, none⟩ (.int .i64 c1)).setCell ⟨w.heap.size, 2, none⟩ (.string c2)).setCell ⟨w.heap.size, 3, none⟩ (.int .i64 c3)).setCell ⟨w.heap.size, 4, none⟩ (.int .i64 c4)).setCell ⟨w.heap.size, 5, none⟩ (.string c5)).alloc (.cells #[.string ⟨#[49, 49, 49, 49]⟩, .string ⟨#[50, 50, 50, 50]⟩, .string ⟨#[51, 51, 51, 51]⟩] 9)).drew)) := set6a HB4.out (Nat.le_refl _) _ _ _ _ _ _ _
            generalize (((((((w3.setCell ⟨w.heap.size, 0, none⟩ (.int .i64 2)).setCell ⟨w.heap.size, 1, none⟩ (.int .i64 c1)).setCell ⟨w.heap.size, 2, none⟩ (.string c2)).setCell ⟨w.heap.size, 3, none⟩ (.int .i64 c3)).setCell ⟨w.heap.size, 4, none⟩ (.int .i64 c4)).setCell ⟨w.heap.size, 5, none⟩ (.string c5)).alloc (.cells #[.string ⟨#[49, 49, 49, 49]⟩, .string ⟨#[50, 50, 50, 50]⟩, .string ⟨#[51, 51, 51, 51]⟩] 9)).drew = X at *
            clear s0 s1 s2 s3 s4 s5 sf f0 f1 f2 f3 f4 f5 ff
            obtain ⟨u0, u1, u2, u3, u4, u5, uf⟩ := P2.blk6 kX
            clear kX
            go_wp2
            exact bodyPost_ret (v := .tuple #[.agg #[.int .i64 2, .int .i64 c1, .string c2, .int .i64 c3, .int .i64 c4, .string c5], .string ⟨#[50, 50, 50, 50]⟩]) (by simp [results, Tryd.results8, go_sem, u0, u1, u2, u3, u4, u5]) rfl ⟨⟨2, c1, c2, c3, c4, c5⟩, _, rfl, HOK.out, by decide, HX.out⟩
        · clear h1 h3 t1 t2
          go_wp2_with fail
          go_region
          all_goals
            have kX : ((((((((w3.setCell ⟨w.heap.size, 0, none⟩ (.int .i64 3)).setCell ⟨w.heap.size, 1, none⟩ (.int .i64 c1)).setCell ⟨w.heap.size, 2, none⟩ (.string c2)).setCell ⟨w.heap.size, 3, none⟩ (.int .i64 c3)).setCell ⟨w.heap.size, 4, none⟩ (.int .i64 c4)).setCell ⟨w.heap.size, 5, none⟩ (.string c5)).alloc (.cells #[.string ⟨#[49, 49, 49, 49]⟩, .string ⟨#[50, 50, 50, 50]⟩, .string ⟨#[51, 51, 51, 51]⟩] 9)).drew).heap[w.heap.size]? = some (.cells #[.int .i64 3, .int .i64 c1, .string c2, .int .i64 c3, .int .i64 c4, .string c5] 26 (0, 0)) := carryA (heap_set (heap_set (heap_set (heap_set (heap_set (heap_set KR3.out (by simp)) (by simp)) (by simp)) (by simp)) (by simp)) (by simp)) _
            have HX : Hid (Below w.heap.size w ((((((((w3.setCell ⟨w.heap.size, 0, none⟩ (.int .i64 3)).setCell ⟨w.heap.size, 1, none⟩ (.int .i64 c1)).setCell ⟨w.heap.size, 2, none⟩ (.string c2)).setCell ⟨w.heap.size, 3, none⟩ (.int .i64 c3)).setCell ⟨w.heap.size, 4, none⟩ (.int .i64 c4)).setCell ⟨w.heap.size, 5, none⟩ (.string c5)).alloc (.cells #[.string ⟨#[49, 49, 49, 49]⟩, .string ⟨#[50, 50, 50, 50]⟩, .string ⟨#[51, 51, 51, 51]⟩] 9)).drew)) := set6a HB4.out (Nat.le_refl _) _ _ _ _ _ _ _
            generalize (((((((w3.setCell ⟨w.heap.size, 0, none⟩ (.int .i64 3)).setCell ⟨w.heap.size, 1, none⟩ (.int .i64 c1)).setCell ⟨w.heap.size, 2, none⟩ (.string c2)).setCell ⟨w.heap.size, 3, none⟩ (.int .i64 c3)).setCell ⟨w.heap.size, 4, none⟩ (.int .i64 c4)).setCell ⟨w.heap.size, 5, none⟩ (.string c5)).alloc (.cells #[.string ⟨#[49, 49, 49, 49]⟩, .string ⟨#[50, 50, 50, 50]⟩, .string ⟨#[51, 51, 51, 51]⟩] 9)).drew = X at *
            clear s0 s1 s2 s3 s4 s5 sf f0 f1 f2 f3 f4 f5 ff
            obtain ⟨u0, u1, u2, u3, u4, u5, uf⟩ := P2.blk6 kX
            clear kX
            go_wp2
            exact bodyPost_ret (v := .tuple #[.agg #[.int .i64 3, .int .i64 c1, .string c2, .int .i64 c3, .int .i64 c4, .string c5], .string ⟨#[51, 51, 51, 51]⟩]) (by simp [results, Tryd.results8, go_sem, u0, u1, u2, u3, u4, u5]) rfl ⟨⟨3, c1, c2, c3, c4, c5⟩, _, rfl, HOK.out, by decide, HX.out⟩
      · have t2 : decide (c0 ≤ 3) = false := decide_eq_false h3
        go_wp2_with fail
        go_region_with (first
          | (go_at_call 45; refine (pin_draw d3.drew).mono ?_; rintro e w4 ⟨pin, rfl, hp, d4, g4'⟩; have g4 := grown_trans (grown_drew (grown_refl w3 (some (w.heap.size + 1)))) g4'; clear g4'; have kR4 := DS.carryG kR3 g4 (by omega); have kC4 := DS.carryG kC3 g4 (by omega); obtain ⟨r0, r1, r2, r3, r4, r5, rf⟩ := P2.blk6 kR4; obtain ⟨y0, y1, y2, y3, y4, y5, yf⟩ := P2.blk6 kC4))
        all_goals
          have HB4 : Hid (Below w.heap.size w w4) := HB3.trans (grown_below g4 (by omega) HB3.size)
          clear kR3 kC3 kR4 kC4 d4 g4 HB3 d3
          go_wp2
          exact bodyPost_ret (v := .tuple #[.agg #[.int .i64 c0, .int .i64 c1, .string c2, .int .i64 c3, .int .i64 c4, .string c5], .string pin]) (by simp [results, Tryd.results8, go_sem, r0, r1, r2, r3, r4, r5]) rfl ⟨⟨c0, c1, c2, c3, c4, c5⟩, pin, rfl, HOK.out, hp, PX.set6 HB4.out (Nat.le_refl _) _ _ _ _ _ _⟩
    · have t1 : decide (1 ≤ c0) = false := decide_eq_false h1
      go_wp2_with fail
      go_region_with (first
        | (go_at_call 45; refine (pin_draw d3.drew).mono ?_; rintro e w4 ⟨pin, rfl, hp, d4, g4'⟩; have g4 := grown_trans (grown_drew (grown_refl w3 (some (w.heap.size + 1)))) g4'; clear g4'; have kR4 := DS.carryG kR3 g4 (by omega); have kC4 := DS.carryG kC3 g4 (by omega); obtain ⟨r0, r1, r2, r3, r4, r5, rf⟩ := P2.blk6 kR4; obtain ⟨y0, y1, y2, y3, y4, y5, yf⟩ := P2.blk6 kC4))
      all_goals
        have HB4 : Hid (Below w.heap.size w w4) := HB3.trans (grown_below g4 (by omega) HB3.size)
        clear kR3 kC3 kR4 kC4 d4 g4 HB3 d3
        go_wp2
        exact bodyPost_ret (v := .tuple #[.agg #[.int .i64 c0, .int .i64 c1, .string c2, .int .i64 c3, .int .i64 c4, .string c5], .string pin]) (by simp [results, Tryd.results8, go_sem, r0, r1, r2, r3, r4, r5]) rfl ⟨⟨c0, c1, c2, c3, c4, c5⟩, pin, rfl, HOK.out, hp, PX.set6 HB4.out (Nat.le_refl _) _ _ _ _ _ _⟩
set_option maxRecDepth 100000 in
set_option maxHeartbeats 3200000 in
theorem cp_draw (v : Value) (n : Nat) (w : World) (hc : IsCode w.heap.size w v n) :
    Calls Tryd.prog 10 #[v] w fun e w' => ∃ (c : Cd) (old pin : ByteArray), e = .returned (.tuple #[cdV c, .string old, .string pin]) ∧ CokN 100 c ∧ old.size ≤ 9 ∧ pin.size ≤ 9 ∧ Below w.heap.size w w' := by
  unfold cdV
  go_enter Tryd.func10, Tryd.ntmps10
  go_wp2_with fail
  refine (sourceA v n w _ hc).mono ?_
  rintro e w1 ⟨rfl, d1, b1⟩
  have z1 := b1.size
  rw [asz] at z1
  have kR : w1.heap[w.heap.size]? = some (.cells #[.int .i64 0, .int .i64 0, .string ⟨#[]⟩, .int .i64 0, .int .i64 0, .string ⟨#[]⟩] 26) := (b1.block _ (Nat.lt_succ_self _)).trans (heap_alloc_new w _)
  have HB1 : Below w.heap.size w w1 := (albel w _).trans (b1.mono (Nat.le_succ _))
  have hc1 : IsCode w1.heap.size w1 v n := (hc.below HB1 (Nat.le_refl _)).up HB1.size
  go_wp2_with fail
  refine (try_draw v n _ hc1).mono ?_
  rintro e w2 ⟨⟨c0, c1, c2, c3, c4, c5⟩, old, rfl, hok, ho, hb⟩
  have HOK : Hid _ := hok
  unfold cdV
  dsimp only
  have kR3 := carryA (carry kR hb) (.cells #[.int .i64 c0, .int .i64 c1, .string c2, .int .i64 c3, .int .i64 c4, .string c5] 26)
  have kC3 := heap_alloc_new w2 (.cells #[.int .i64 c0, .int .i64 c1, .string c2, .int .i64 c3, .int .i64 c4, .string c5] 26)
  have d3 := (d1.below hb).alloc (.cells #[.int .i64 c0, .int .i64 c1, .string c2, .int .i64 c3, .int .i64 c4, .string c5] 26)
  have hl3 := (d1.below hb).lt
  have HB3 : Below w.heap.size w (w2.alloc (.cells #[.int .i64 c0, .int .i64 c1, .string c2, .int .i64 c3, .int .i64 c4, .string c5] 26)) := bel2 (bel2 HB1 hb) (albel _ _)
  clear kR HB1 b1 d1 hok z1 hc hc1 hb
  go_upto_region 3 with fail
  generalize w2.alloc (.cells #[.int .i64 c0, .int .i64 c1, .string c2, .int .i64 c3, .int .i64 c4, .string c5] 26) = w3 at *
  obtain ⟨g, hg⟩ : ∃ g, w2.heap.size = g := ⟨_, rfl⟩
  rw [hg] at kC3 hl3
  (try rw [hg])
  clear hg
  obtain ⟨f0, f1, f2, f3, f4, f5, ff⟩ := P2.blk6 kC3
  obtain ⟨s0, s1, s2, s3, s4, s5, sf⟩ := P2.blk6 kR3
  go_wp2_with fail
  go_region_with (first
    | (go_at_call 45; refine (pin_draw d3.drew).mono ?_; rintro e w4 ⟨pin, rfl, hp, d4, g4'⟩; have g4 := grown_trans (grown_drew (grown_refl w3 (some (w.heap.size + 1)))) g4'; clear g4'; have kR4 := DS.carryG kR3 g4 (by omega); have kC4 := DS.carryG kC3 g4 (by omega); obtain ⟨r0, r1, r2, r3, r4, r5, rf⟩ := P2.blk6 kR4; obtain ⟨y0, y1, y2, y3, y4, y5, yf⟩ := P2.blk6 kC4))
  all_goals
    have HB4 : Hid (Below w.heap.size w w4) := HB3.trans (grown_below g4 (by omega) HB3.size)
    clear kR3 kC3 kR4 kC4 d4 g4 HB3 d3
    go_wp2
    exact bodyPost_ret (v := .tuple #[.agg #[.int .i64 c0, .int .i64 c1, .string c2, .int .i64 c3, .int .i64 c4, .string c5], .string old, .string pin]) (by simp [results, Tryd.results10, go_sem, r0, r1, r2, r3, r4, r5]) rfl ⟨⟨c0, c1, c2, c3, c4, c5⟩, old, pin, rfl, HOK.out, ho, hp, PX.set6 HB4.out (Nat.le_refl _) _ _ _ _ _ _⟩
theorem bytes_small (c : Cd) : (cardBytes c).size ≤ 204 := by
  unfold cardBytes
  split
  · rename_i h
    have := N2.cardT_size c h
    rw [C6.size_mk, C6.seal_yes (by omega), List.length_append]
    have h1 : (cardT c).data.toList.length = (cardT c).size := rfl
    have h2 : (C6.four (Mc.crcMore 0 (cardT c).data.toList)).length = 4 := rfl
    omega
  · exact Nat.zero_le _
theorem seal_small {s : ByteArray} (h : s.size ≤ 300) : (⟨(C6.sealOf s).toArray⟩ : ByteArray).size ≤ 304 := by
  rw [C6.size_mk, C6.seal_yes (by omega), List.length_append]
  have h1 : s.data.toList.length = s.size := rfl
  have h2 : (C6.four (Mc.crcMore 0 s.data.toList)).length = 4 := rfl
  omega
theorem field_text (a b c : Value) (W : World) : (Instr.field 77 (.agg #[a, b, c]) 0).run Tryd.prog W = .ok a W := by kernel_rfl
set_option maxRecDepth 100000 in
set_option maxHeartbeats 3200000 in
theorem read_draw (v : Value) (n : Nat) (w : World) (hc : IsCode w.heap.size w v n) :
    Calls Tryd.prog 16 #[v] w fun e w' => ∃ u : ByteArray, e = .returned (.string u) ∧ u.size ≤ 1000 ∧ Below w.heap.size w w' := by
  go_enter Tryd.func16, Tryd.ntmps16
  go_wp2_with fail
  refine (drawSource v n w hc).mono ?_
  rintro e w1 ⟨rfl, d1, b1⟩
  go_wp2_with fail
  refine (card_draw d1).mono ?_
  rintro e w2 ⟨c, rfl, hok, d2, g2⟩
  have B2 : Below w.heap.size w w2 := b1.trans (grown_below g2 (Nat.le_refl _) b1.size)
  have hs := bytes_small c
  have HC : Hid (∀ W, Calls Tryd.prog 22 #[cdV c] W fun e w' => e = .returned (.string (cardBytes c)) ∧ Below W.heap.size W w') := fun W => N2.bytes_spec c W (by unfold maxLen; have := hok.2.2.2.2.1; omega) (by unfold maxLen; have := hok.2.2.2.2.2; omega) hok.1
  clear hok g2 b1 d1
  generalize cardBytes c = t at *
  obtain ⟨c0, c1, c2, c3, c4, c5⟩ := c
  unfold cdV at HC ⊢
  dsimp only at HC ⊢
  go_wp2_with fail
  refine (HC.out _).mono ?_
  rintro e w3 ⟨rfl, hb⟩
  have d3 := d2.below hb
  have B3 := bel2 B2 hb
  clear hb d2 B2
  go_wp2_with fail
  refine (drawN 5 d3 (by omega) (by omega)).mono ?_
  rintro e w4 ⟨k, rfl, hk, d4, g4⟩
  have B4 : Below w.heap.size w w4 := B3.trans (grown_below g4 (Nat.le_refl _) B3.size)
  clear d3 g4 B3
  have hcase : k = 0 ∨ k = 1 ∨ k = 2 ∨ k = 3 ∨ k = 4 := by omega
  rcases hcase with rfl | rfl | rfl | rfl | rfl
  · go_wp2_with fail
    refine (spoil_any _ _ _ _ t _ d4 (by omega)).mono ?_
    rintro e w5 ⟨u, rfl, hu, d5, g5⟩
    have HB : Hid (Below w.heap.size w w5) := B4.trans (grown_below g5 (Nat.le_refl _) B4.size)
    clear g5 d5 d4 B4
    go_wp2
    go_ret
    exact ⟨u, rfl, by omega, HB.out⟩
  · go_wp2_with fail
    refine (drawN ((t.size : Int) + 1) d4 (by omega) (by omega)).mono ?_
    rintro e w5 ⟨r, rfl, hr, d5, g5⟩
    have HB : Hid (Below w.heap.size w w5) := B4.trans (grown_below g5 (Nat.le_refl _) B4.size)
    have hri : (r : Int) ≤ (t.size : Int) := by omega
    clear g5 d5 d4 B4
    go_wp2
    go_ret
    exact ⟨_, rfl, by rw [ByteArray.size_extract]; omega, HB.out⟩
  · have HU : Hid (∀ W, ∃ x : ByteArray, x.size ≤ 300 ∧ Calls Tryd.prog 55 #[.string t] W fun e w' => e = .returned (.agg #[.string x, .int .i64 0, .int .i64 (opK t)]) ∧ Below W.heap.size W w') := fun W => by
      have h := C7.spec_any t W (by unfold maxLen; omega)
      rw [opened_eq] at h
      refine ⟨if opK t = 0 then C7.body t else ⟨#[]⟩, ?_, h⟩
      split
      · unfold C7.body; rw [ByteArray.size_extract]; omega
      · exact Nat.zero_le _
    go_wp2_with fail
    obtain ⟨x, hx, HX⟩ := HU.out w4
    refine HX.mono ?_
    rintro e w5 ⟨rfl, hb⟩
    have d5 := d4.below hb
    have B5 := bel2 B4 hb
    clear hb d4 B4 HU HX
    have hfl : ∀ W, (Instr.field 77 (.agg #[.string x, .int .i64 0, .int .i64 (opK t)]) 0).run Tryd.prog W = .ok (.string x) W := fun W => field_text _ _ _ W
    go_wp2_with fail
    clear hfl
    refine (spoil_any _ _ _ _ x _ d5 (by omega)).mono ?_
    rintro e w6 ⟨u, rfl, hu, d6, g6⟩
    have B6 : Below w.heap.size w w6 := B5.trans (grown_below g6 (Nat.le_refl _) B5.size)
    clear g6 d6 d5 B5
    have hus : u.size ≤ 301 := by omega
    go_wp2_with fail
    refine (C6.seal_spec u _ (by unfold maxLen; omega)).mono ?_
    rintro e w7 ⟨rfl, hb⟩
    have HB : Hid (Below w.heap.size w w7) := bel2 B6 hb
    clear hb B6
    go_wp2
    go_ret
    refine ⟨_, rfl, ?_, HB.out⟩
    rw [C6.size_mk, C6.seal_yes (by omega), List.length_append]
    have h1 : u.data.toList.length = u.size := rfl
    have h2 : (C6.four (Mc.crcMore 0 u.data.toList)).length = 4 := rfl
    omega
  · have HB : Hid (Below w.heap.size w w4) := B4
    clear B4 d4
    go_wp2
    go_ret
    exact ⟨t, rfl, by omega, HB.out⟩
  · have HB : Hid (Below w.heap.size w w4) := B4
    clear B4 d4
    go_wp2
    go_ret
    exact ⟨t, rfl, by omega, HB.out⟩
end Go.Proofs.YteehgicnfageiaaDoor.DE
