/-
  A line in memory of its own, in the program.
-/
import Derived.Test.YtkpjdmmgdmbmnaaDoorIC
import Derived.Test.YtkpjdmmgdmbmnaaDoorI4
namespace Go.Proofs.YtkpjdmmgdmbmnaaDoor.ID
open Go.RowKit
open Go.Proofs.YtkpjdmmgdmbmnaaDoor.C0 Go.Proofs.YtkpjdmmgdmbmnaaDoor.HB
open Go.Proofs.YtkpjdmmgdmbmnaaDoor.A0 Go.Proofs.YtkpjdmmgdmbmnaaDoor.A1 Go.Proofs.YtkpjdmmgdmbmnaaDoor.A2 Go.Proofs.YtkpjdmmgdmbmnaaDoor.A4 Go.Proofs.YtkpjdmmgdmbmnaaDoor.A6 Go.Proofs.YtkpjdmmgdmbmnaaDoor.A7 Go.Proofs.YtkpjdmmgdmbmnaaDoor.I1 Go.Proofs.YtkpjdmmgdmbmnaaDoor.I4 Go.Proofs.YtkpjdmmgdmbmnaaDoor.IC
theorem set4 (y : World) (g0 g1 i : Nat) (a b c d : Value) (h : g0 ≠ g1) : ((((y.setCell ⟨g1, 0, none⟩ a).setCell ⟨g1, 1, none⟩ b).setCell ⟨g1, 2, none⟩ c).setCell ⟨g1, 3, none⟩ d).cell? ⟨g0, i, none⟩ = y.cell? ⟨g0, i, none⟩ :=
  World.cell?_of_block (a := ⟨g0, i, none⟩) ((heap_setCell_other _ _ _ _ h).trans ((heap_setCell_other _ _ _ _ h).trans ((heap_setCell_other _ _ _ _ h).trans (heap_setCell_other _ _ _ _ h))))
theorem joinG (s : ByteArray) (g : Nat) (w : World) (hg : w.cell? ⟨g, 0, none⟩ = some (.string s)) (hs : s.size ≤ 1000000) :
    Calls Tryd.prog 50 #[.slice (some ⟨g, 0, none⟩) 1 1] w fun e w' => e = .returned (.string s) ∧ Below w.heap.size w w' := by
  refine (C2.joined_any g 0 1 1 [s] w rfl (World.block_lt_of_cell? w _ hg) (by omega) (by simp only [C2.total]; omega) (fun j hj => ?_)).mono ?_
  · obtain rfl : j = 0 := by omega
    exact hg
  · rintro x w' ⟨rfl, hb⟩
    exact ⟨by rw [cat1], hb⟩
set_option maxRecDepth 100000 in
set_option maxHeartbeats 3200000 in
theorem ownLine_any (x : Ln) (vc : Value) (w : World) (hv : IRow w vc x.cards) (hz : x.cards.length ≤ 1048576) (hn : x.name.size ≤ 1000000) (hs : x.sum.size ≤ 1000000) :
    Calls Tryd.prog 78 #[lnV x vc] w fun e w' => ∃ a cap, e = .returned (lnV x (.slice a x.cards.length cap)) ∧ OIRow w.heap.size w' (.slice a x.cards.length cap) x.cards ∧ Below w.heap.size w w' := by
  obtain ⟨kind, name, sum, cs⟩ := x
  unfold lnV
  dsimp only at hv hz hn hs ⊢
  have HC : Hid (∀ W, Below w.heap.size w W → Calls Tryd.prog 95 #[vc] W fun e w' => ∃ a cap, e = .returned (.slice a cs.length cap) ∧ OIRow W.heap.size w' (.slice a cs.length cap) cs ∧ Below W.heap.size W w') := fun W hW => cloneI_any vc cs W (hv.below hW) hz
  obtain ⟨a, cap, rfl, _, _⟩ := hv
  have KX := carryA (heap_alloc_new w (.cells #[.int .i64 kind, .string name, .string sum, .slice a cs.length cap] 29)) (.cells #[.int .i64 0, .string ⟨#[]⟩, .string ⟨#[]⟩, .slice none 0 0] 29)
  have KR := heap_alloc_new (w.alloc (.cells #[.int .i64 kind, .string name, .string sum, .slice a cs.length cap] 29)) (.cells #[.int .i64 0, .string ⟨#[]⟩, .string ⟨#[]⟩, .slice none 0 0] 29)
  rw [asz] at KR
  have BA := (albel w (.cells #[.int .i64 kind, .string name, .string sum, .slice a cs.length cap] 29))
  have BB := BA.alloc BA.size (.cells #[.int .i64 0, .string ⟨#[]⟩, .string ⟨#[]⟩, .slice none 0 0] 29)
  have hsz : ((w.alloc (.cells #[.int .i64 kind, .string name, .string sum, .slice a cs.length cap] 29)).alloc (.cells #[.int .i64 0, .string ⟨#[]⟩, .string ⟨#[]⟩, .slice none 0 0] 29)).heap.size = w.heap.size + 2 := by simp
  go_enter Tryd.func78, Tryd.ntmps78
  go_upto_region 1 with fail
  generalize hW : (w.alloc (.cells #[.int .i64 kind, .string name, .string sum, .slice a cs.length cap] 29)).alloc (.cells #[.int .i64 0, .string ⟨#[]⟩, .string ⟨#[]⟩, .slice none 0 0] 29) = W at *
  have HX : Hid _ := KX
  have HR : Hid _ := KR
  have HB : Hid (Below w.heap.size w W) := BB
  have HZ : Hid (W.heap.size = w.heap.size + 2) := hsz
  clear KX KR BA BB hsz hW
  have KF : Hid (∀ y, Below W.heap.size W y → y.cell? ⟨w.heap.size, 0, none⟩ = some (.int .i64 kind) ∧ y.cell? ⟨w.heap.size, 1, none⟩ = some (.string name) ∧ y.cell? ⟨w.heap.size, 2, none⟩ = some (.string sum) ∧ y.cell? ⟨w.heap.size, 3, none⟩ = some (.slice a cs.length cap)) := fun y hy => kept4s HX.out hy
  have KS : Hid (∀ y, Below W.heap.size W y → ∀ p q r s, ((((y.setCell ⟨w.heap.size + 1, 0, none⟩ p).setCell ⟨w.heap.size + 1, 1, none⟩ q).setCell ⟨w.heap.size + 1, 2, none⟩ r).setCell ⟨w.heap.size + 1, 3, none⟩ s).cell? ⟨w.heap.size, 0, none⟩ = some (.int .i64 kind) ∧ ((((y.setCell ⟨w.heap.size + 1, 0, none⟩ p).setCell ⟨w.heap.size + 1, 1, none⟩ q).setCell ⟨w.heap.size + 1, 2, none⟩ r).setCell ⟨w.heap.size + 1, 3, none⟩ s).cell? ⟨w.heap.size, 1, none⟩ = some (.string name) ∧ ((((y.setCell ⟨w.heap.size + 1, 0, none⟩ p).setCell ⟨w.heap.size + 1, 1, none⟩ q).setCell ⟨w.heap.size + 1, 2, none⟩ r).setCell ⟨w.heap.size + 1, 3, none⟩ s).cell? ⟨w.heap.size, 2, none⟩ = some (.string sum) ∧ ((((y.setCell ⟨w.heap.size + 1, 0, none⟩ p).setCell ⟨w.heap.size + 1, 1, none⟩ q).setCell ⟨w.heap.size + 1, 2, none⟩ r).setCell ⟨w.heap.size + 1, 3, none⟩ s).cell? ⟨w.heap.size, 3, none⟩ = some (.slice a cs.length cap)) := fun y hy p q r s => by
    have h := kept4s HX.out hy
    have hne : w.heap.size ≠ w.heap.size + 1 := by omega
    exact ⟨(set4 _ _ _ _ _ _ _ _ hne).trans h.1, (set4 _ _ _ _ _ _ _ _ hne).trans h.2.1, (set4 _ _ _ _ _ _ _ _ hne).trans h.2.2.1, (set4 _ _ _ _ _ _ _ _ hne).trans h.2.2.2⟩
  have hb0 : Below W.heap.size W W.drew := (Below.refl _ _).drew
  refine wp_region_held_drew (S := (fun y => y.cell? ⟨w.heap.size, 0, none⟩ = some (.int .i64 kind) ∧ y.cell? ⟨w.heap.size, 1, none⟩ = some (.string name) ∧ y.cell? ⟨w.heap.size, 2, none⟩ = some (.string sum) ∧ y.cell? ⟨w.heap.size, 3, none⟩ = some (.slice a cs.length cap))) (by kernel_rfl) (KF.out _ hb0) (fun hHeld => ?_)
  generalize W.drew = W1 at *
  refine TK.take_at 0 (some 3) (v := ?va0) rfl rfl (by kernel_rfl) (by kernel_rfl) (by kernel_rfl) (fun _ _ _ h => h) (Or.inl ⟨rfl, ?ha0⟩) hHeld ?ra0
  case ha0 => intro wq hSw; (try dsimp only at hSw); go_simp; all_goals (with_reducible rfl)
  try simp only [Act.put, List.setIfInBounds_toArray, List.set_cons_zero, List.set_cons_succ]
  refine TK.take_at 1 (some 4) (v := ?va1) rfl rfl (by kernel_rfl) (by kernel_rfl) (by kernel_rfl) (fun _ _ _ h => h) (Or.inl ⟨rfl, ?ha1⟩) hHeld ?ra1
  case ha1 => intro wq hSw; (try dsimp only at hSw); go_simp; all_goals (with_reducible rfl)
  try simp only [Act.put, List.setIfInBounds_toArray, List.set_cons_zero, List.set_cons_succ]
  refine TK.take_at 2 (some 5) (v := ?va2) rfl rfl (by kernel_rfl) (by kernel_rfl) (by kernel_rfl) (fun _ _ _ h => h) (Or.inl ⟨rfl, ?ha2⟩) hHeld ?ra2
  case ha2 => intro wq hSw; (try dsimp only at hSw); go_simp; all_goals (with_reducible rfl)
  try simp only [Act.put, List.setIfInBounds_toArray, List.set_cons_zero, List.set_cons_succ]
  refine TK.take_at 3 (some 6) (v := ?va3) rfl rfl (by kernel_rfl) (by kernel_rfl) (by kernel_rfl) (fun _ _ _ h => h) (Or.inl ⟨rfl, ?ha3⟩) hHeld ?ra3
  case ha3 => intro wq hSw; (try dsimp only at hSw); go_simp; all_goals (with_reducible rfl)
  try simp only [Act.put, List.setIfInBounds_toArray, List.set_cons_zero, List.set_cons_succ]
  refine TK.take_at 6 (some 9) (v := ?va6) rfl rfl (by kernel_rfl) (by kernel_rfl) (by kernel_rfl) (fun _ _ _ h => h) (Or.inl ⟨rfl, ?ha6⟩) hHeld ?ra6
  case ha6 => intro wq hSw; (try dsimp only at hSw); go_simp; all_goals (with_reducible rfl)
  try simp only [Act.put, List.setIfInBounds_toArray, List.set_cons_zero, List.set_cons_succ]
  refine TK.take_at 7 (some 10) (v := ?va7) rfl rfl (by kernel_rfl) (by kernel_rfl) (by kernel_rfl) (fun _ _ _ h => h) (Or.inl ⟨rfl, ?ha7⟩) hHeld ?ra7
  case ha7 => intro wq hSw; (try dsimp only at hSw); go_simp; all_goals (with_reducible rfl)
  try simp only [Act.put, List.setIfInBounds_toArray, List.set_cons_zero, List.set_cons_succ]
  refine TK.take_at 10 (some 13) (v := ?va10) rfl rfl (by kernel_rfl) (by kernel_rfl) (by kernel_rfl) (fun _ _ _ h => h) (Or.inl ⟨rfl, ?ha10⟩) hHeld ?ra10
  case ha10 => intro wq hSw; (try dsimp only at hSw); go_simp; all_goals (with_reducible rfl)
  try simp only [Act.put, List.setIfInBounds_toArray, List.set_cons_zero, List.set_cons_succ]
  refine TK.take_at 11 (some 14) (v := ?va11) rfl rfl (by kernel_rfl) (by kernel_rfl) (by kernel_rfl) (fun _ _ _ h => h) (Or.inl ⟨rfl, ?ha11⟩) hHeld ?ra11
  case ha11 => intro wq hSw; (try dsimp only at hSw); go_simp; all_goals (with_reducible rfl)
  try simp only [Act.put, List.setIfInBounds_toArray, List.set_cons_zero, List.set_cons_succ]
  refine wpAnyH_ready (rs := [4, 8]) (by kernel_rfl) (by simp) ?_
  refine AllReadyH.cons rfl (fun K hK => ?_) (AllReadyH.cons rfl (fun K hK => ?_) AllReadyH.nil)
  · go_simp
    (have c4 : (W1.alloc (.cells #[.string name] 9)).cell? ⟨W1.heap.size, 0, none⟩ = some (.string name) := (by simp [go_sem]); have hb0 := bel2 hb0 (albel W1 (.cells #[.string name] 9)); generalize W1.alloc (.cells #[.string name] 9) = W2 at *; generalize W1.heap.size = g4 at *)
    try (go_wp2_with fail)
    refine hK.out _ _ ?_ (fun hHeld => ?_)
    · exact ((by first | exact KF.out _ hb0 | exact KS.out _ hb0 _ _ _ _))
    clear hK K
    try simp only [Act.put, List.setIfInBounds_toArray, List.set_cons_zero, List.set_cons_succ]
    refine wpAnyH_ready (rs := [5, 8]) (by kernel_rfl) (by simp) ?_
    refine AllReadyH.cons rfl (fun K hK => ?_) (AllReadyH.cons rfl (fun K hK => ?_) AllReadyH.nil)
    · go_simp
      (go_at_call 50; refine (joinG name g4 _ c4 hn).mono ?_; rintro e W3 ⟨rfl, hq⟩; have hb0 := bel2 hb0 hq; clear hq)
      try (go_wp2_with fail)
      refine hK.out _ _ ?_ (fun hHeld => ?_)
      · exact ((by first | exact KF.out _ hb0 | exact KS.out _ hb0 _ _ _ _))
      clear hK K
      try simp only [Act.put, List.setIfInBounds_toArray, List.set_cons_zero, List.set_cons_succ]
      refine wpAnyH_ready (rs := [8]) (by kernel_rfl) (by simp) ?_
      refine AllReadyH.cons rfl (fun K hK => ?_) AllReadyH.nil
      go_simp
      (have c8 : (W3.alloc (.cells #[.string sum] 9)).cell? ⟨W3.heap.size, 0, none⟩ = some (.string sum) := (by simp [go_sem]); have hb0 := bel2 hb0 (albel W3 (.cells #[.string sum] 9)); generalize W3.alloc (.cells #[.string sum] 9) = W4 at *; generalize W3.heap.size = g8 at *)
      try (go_wp2_with fail)
      refine hK.out _ _ ?_ (fun hHeld => ?_)
      · exact (by first | exact KF.out _ hb0 | exact KS.out _ hb0 _ _ _ _)
      clear hK K
      try simp only [Act.put, List.setIfInBounds_toArray, List.set_cons_zero, List.set_cons_succ]
      refine wpAnyH_ready (rs := [9]) (by kernel_rfl) (by simp) ?_
      refine AllReadyH.cons rfl (fun K hK => ?_) AllReadyH.nil
      go_simp
      (go_at_call 50; refine (joinG sum g8 _ c8 hs).mono ?_; rintro e W5 ⟨rfl, hq⟩; have hb0 := bel2 hb0 hq; clear hq)
      try (go_wp2_with fail)
      refine hK.out _ _ ?_ (fun hHeld => ?_)
      · exact (by first | exact KF.out _ hb0 | exact KS.out _ hb0 _ _ _ _)
      clear hK K
      try simp only [Act.put, List.setIfInBounds_toArray, List.set_cons_zero, List.set_cons_succ]
      refine wpAnyH_ready (rs := [12]) (by kernel_rfl) (by simp) ?_
      refine AllReadyH.cons rfl (fun K hK => ?_) AllReadyH.nil
      go_simp
      (go_at_call 95; refine (HC.out _ (bel2 HB.out hb0)).mono ?_; rintro e x3 ⟨a3, c3, rfl, ho3, hq⟩; have HO : Hid (OIRow W.heap.size x3 (.slice a3 cs.length c3) cs) := own_mono ho3 hb0.size; have hb0 := bel2 hb0 hq; clear hq ho3; obtain ⟨r0, r1, r2, r3, rf⟩ := blk4f (carry HR.out hb0))
      try (go_wp2_with fail)
      refine hK.out _ _ ?_ (fun hHeld => ?_)
      · exact (by first | exact KF.out _ hb0 | exact KS.out _ hb0 _ _ _ _)
      clear hK K
      try simp only [Act.put, List.setIfInBounds_toArray, List.set_cons_zero, List.set_cons_succ]
      refine TK.take_at 13 (some 16) (v := ?vb13) rfl rfl (by kernel_rfl) (by kernel_rfl) (by kernel_rfl) (fun _ _ _ h => h) (Or.inl ⟨rfl, ?hb13⟩) hHeld ?rb13
      case hb13 => intro wq hSw; (try dsimp only at hSw); go_simp; all_goals (with_reducible rfl)
      try simp only [Act.put, List.setIfInBounds_toArray, List.set_cons_zero, List.set_cons_succ]
      refine wpAnyH_ready (rs := [14]) (by kernel_rfl) (by simp) ?_
      refine AllReadyH.cons rfl (fun K hK => ?_) AllReadyH.nil
      go_simp
      skip
      try (go_wp2_with fail)
      refine hK.out _ _ ?_ (fun hHeld => ?_)
      · exact (by first | exact KF.out _ hb0 | exact KS.out _ hb0 _ _ _ _)
      clear hK K
      try simp only [Act.put, List.setIfInBounds_toArray, List.set_cons_zero, List.set_cons_succ]
      refine wpAnyH_done (by kernel_rfl) ?_ _
      go_wp2_with fail
      refine bodyPost_ret (v := .agg #[.int .i64 kind, .string name, .string sum, .slice a3 cs.length c3]) (by simp [results, Tryd.results78, go_sem, r0, r1, r2, r3]) rfl ⟨a3, c3, rfl, ?_, ?_⟩
      · have ho : OIRow (w.heap.size + 2) x3 (.slice a3 cs.length c3) cs := HZ.out ▸ HO.out
        exact own_mono (own_set (own_set (own_set (own_set ho (by omega)) (by omega)) (by omega)) (by omega)) (by omega)
      · exact ((((bel2 HB.out hb0).setCell (by show w.heap.size ≤ w.heap.size + 1; omega) _).setCell (by show w.heap.size ≤ w.heap.size + 1; omega) _).setCell (by show w.heap.size ≤ w.heap.size + 1; omega) _).setCell (by show w.heap.size ≤ w.heap.size + 1; omega) _
    · go_simp
      (have c8 : (W2.alloc (.cells #[.string sum] 9)).cell? ⟨W2.heap.size, 0, none⟩ = some (.string sum) := (by simp [go_sem]); have c4 := (World.cell?_alloc_lt W2 (.cells #[.string sum] 9) _ (World.block_lt_of_cell? W2 _ c4)).trans c4; have hb0 := bel2 hb0 (albel W2 (.cells #[.string sum] 9)); generalize W2.alloc (.cells #[.string sum] 9) = W3 at *; generalize W2.heap.size = g8 at *)
      try (go_wp2_with fail)
      refine hK.out _ _ ?_ (fun hHeld => ?_)
      · exact ((by first | exact KF.out _ hb0 | exact KS.out _ hb0 _ _ _ _))
      clear hK K
      try simp only [Act.put, List.setIfInBounds_toArray, List.set_cons_zero, List.set_cons_succ]
      refine wpAnyH_ready (rs := [5]) (by kernel_rfl) (by simp) ?_
      refine AllReadyH.cons rfl (fun K hK => ?_) AllReadyH.nil
      go_simp
      (go_at_call 50; refine (joinG name g4 _ c4 hn).mono ?_; rintro e W4 ⟨rfl, hq⟩; have hb0 := bel2 hb0 hq; have c8 := (hq.cell (p := ⟨g8, 0, none⟩) (World.block_lt_of_cell? _ _ c8)).trans c8; clear hq)
      try (go_wp2_with fail)
      refine hK.out _ _ ?_ (fun hHeld => ?_)
      · exact (by first | exact KF.out _ hb0 | exact KS.out _ hb0 _ _ _ _)
      clear hK K
      try simp only [Act.put, List.setIfInBounds_toArray, List.set_cons_zero, List.set_cons_succ]
      refine wpAnyH_ready (rs := [9]) (by kernel_rfl) (by simp) ?_
      refine AllReadyH.cons rfl (fun K hK => ?_) AllReadyH.nil
      go_simp
      (go_at_call 50; refine (joinG sum g8 _ c8 hs).mono ?_; rintro e W5 ⟨rfl, hq⟩; have hb0 := bel2 hb0 hq; clear hq)
      try (go_wp2_with fail)
      refine hK.out _ _ ?_ (fun hHeld => ?_)
      · exact (by first | exact KF.out _ hb0 | exact KS.out _ hb0 _ _ _ _)
      clear hK K
      try simp only [Act.put, List.setIfInBounds_toArray, List.set_cons_zero, List.set_cons_succ]
      refine wpAnyH_ready (rs := [12]) (by kernel_rfl) (by simp) ?_
      refine AllReadyH.cons rfl (fun K hK => ?_) AllReadyH.nil
      go_simp
      (go_at_call 95; refine (HC.out _ (bel2 HB.out hb0)).mono ?_; rintro e x3 ⟨a3, c3, rfl, ho3, hq⟩; have HO : Hid (OIRow W.heap.size x3 (.slice a3 cs.length c3) cs) := own_mono ho3 hb0.size; have hb0 := bel2 hb0 hq; clear hq ho3; obtain ⟨r0, r1, r2, r3, rf⟩ := blk4f (carry HR.out hb0))
      try (go_wp2_with fail)
      refine hK.out _ _ ?_ (fun hHeld => ?_)
      · exact (by first | exact KF.out _ hb0 | exact KS.out _ hb0 _ _ _ _)
      clear hK K
      try simp only [Act.put, List.setIfInBounds_toArray, List.set_cons_zero, List.set_cons_succ]
      refine TK.take_at 13 (some 16) (v := ?vc13) rfl rfl (by kernel_rfl) (by kernel_rfl) (by kernel_rfl) (fun _ _ _ h => h) (Or.inl ⟨rfl, ?hc13⟩) hHeld ?rc13
      case hc13 => intro wq hSw; (try dsimp only at hSw); go_simp; all_goals (with_reducible rfl)
      try simp only [Act.put, List.setIfInBounds_toArray, List.set_cons_zero, List.set_cons_succ]
      refine wpAnyH_ready (rs := [14]) (by kernel_rfl) (by simp) ?_
      refine AllReadyH.cons rfl (fun K hK => ?_) AllReadyH.nil
      go_simp
      skip
      try (go_wp2_with fail)
      refine hK.out _ _ ?_ (fun hHeld => ?_)
      · exact (by first | exact KF.out _ hb0 | exact KS.out _ hb0 _ _ _ _)
      clear hK K
      try simp only [Act.put, List.setIfInBounds_toArray, List.set_cons_zero, List.set_cons_succ]
      refine wpAnyH_done (by kernel_rfl) ?_ _
      go_wp2_with fail
      refine bodyPost_ret (v := .agg #[.int .i64 kind, .string name, .string sum, .slice a3 cs.length c3]) (by simp [results, Tryd.results78, go_sem, r0, r1, r2, r3]) rfl ⟨a3, c3, rfl, ?_, ?_⟩
      · have ho : OIRow (w.heap.size + 2) x3 (.slice a3 cs.length c3) cs := HZ.out ▸ HO.out
        exact own_mono (own_set (own_set (own_set (own_set ho (by omega)) (by omega)) (by omega)) (by omega)) (by omega)
      · exact ((((bel2 HB.out hb0).setCell (by show w.heap.size ≤ w.heap.size + 1; omega) _).setCell (by show w.heap.size ≤ w.heap.size + 1; omega) _).setCell (by show w.heap.size ≤ w.heap.size + 1; omega) _).setCell (by show w.heap.size ≤ w.heap.size + 1; omega) _
  · go_simp
    (have c8 : (W1.alloc (.cells #[.string sum] 9)).cell? ⟨W1.heap.size, 0, none⟩ = some (.string sum) := (by simp [go_sem]); have hb0 := bel2 hb0 (albel W1 (.cells #[.string sum] 9)); generalize W1.alloc (.cells #[.string sum] 9) = W2 at *; generalize W1.heap.size = g8 at *)
    try (go_wp2_with fail)
    refine hK.out _ _ ?_ (fun hHeld => ?_)
    · exact ((by first | exact KF.out _ hb0 | exact KS.out _ hb0 _ _ _ _))
    clear hK K
    try simp only [Act.put, List.setIfInBounds_toArray, List.set_cons_zero, List.set_cons_succ]
    refine wpAnyH_ready (rs := [4]) (by kernel_rfl) (by simp) ?_
    refine AllReadyH.cons rfl (fun K hK => ?_) AllReadyH.nil
    go_simp
    (have c4 : (W2.alloc (.cells #[.string name] 9)).cell? ⟨W2.heap.size, 0, none⟩ = some (.string name) := (by simp [go_sem]); have c8 := (World.cell?_alloc_lt W2 (.cells #[.string name] 9) _ (World.block_lt_of_cell? W2 _ c8)).trans c8; have hb0 := bel2 hb0 (albel W2 (.cells #[.string name] 9)); generalize W2.alloc (.cells #[.string name] 9) = W3 at *; generalize W2.heap.size = g4 at *)
    try (go_wp2_with fail)
    refine hK.out _ _ ?_ (fun hHeld => ?_)
    · exact (by first | exact KF.out _ hb0 | exact KS.out _ hb0 _ _ _ _)
    clear hK K
    try simp only [Act.put, List.setIfInBounds_toArray, List.set_cons_zero, List.set_cons_succ]
    refine wpAnyH_ready (rs := [5]) (by kernel_rfl) (by simp) ?_
    refine AllReadyH.cons rfl (fun K hK => ?_) AllReadyH.nil
    go_simp
    (go_at_call 50; refine (joinG name g4 _ c4 hn).mono ?_; rintro e W4 ⟨rfl, hq⟩; have hb0 := bel2 hb0 hq; have c8 := (hq.cell (p := ⟨g8, 0, none⟩) (World.block_lt_of_cell? _ _ c8)).trans c8; clear hq)
    try (go_wp2_with fail)
    refine hK.out _ _ ?_ (fun hHeld => ?_)
    · exact (by first | exact KF.out _ hb0 | exact KS.out _ hb0 _ _ _ _)
    clear hK K
    try simp only [Act.put, List.setIfInBounds_toArray, List.set_cons_zero, List.set_cons_succ]
    refine wpAnyH_ready (rs := [9]) (by kernel_rfl) (by simp) ?_
    refine AllReadyH.cons rfl (fun K hK => ?_) AllReadyH.nil
    go_simp
    (go_at_call 50; refine (joinG sum g8 _ c8 hs).mono ?_; rintro e W5 ⟨rfl, hq⟩; have hb0 := bel2 hb0 hq; clear hq)
    try (go_wp2_with fail)
    refine hK.out _ _ ?_ (fun hHeld => ?_)
    · exact (by first | exact KF.out _ hb0 | exact KS.out _ hb0 _ _ _ _)
    clear hK K
    try simp only [Act.put, List.setIfInBounds_toArray, List.set_cons_zero, List.set_cons_succ]
    refine wpAnyH_ready (rs := [12]) (by kernel_rfl) (by simp) ?_
    refine AllReadyH.cons rfl (fun K hK => ?_) AllReadyH.nil
    go_simp
    (go_at_call 95; refine (HC.out _ (bel2 HB.out hb0)).mono ?_; rintro e x3 ⟨a3, c3, rfl, ho3, hq⟩; have HO : Hid (OIRow W.heap.size x3 (.slice a3 cs.length c3) cs) := own_mono ho3 hb0.size; have hb0 := bel2 hb0 hq; clear hq ho3; obtain ⟨r0, r1, r2, r3, rf⟩ := blk4f (carry HR.out hb0))
    try (go_wp2_with fail)
    refine hK.out _ _ ?_ (fun hHeld => ?_)
    · exact (by first | exact KF.out _ hb0 | exact KS.out _ hb0 _ _ _ _)
    clear hK K
    try simp only [Act.put, List.setIfInBounds_toArray, List.set_cons_zero, List.set_cons_succ]
    refine TK.take_at 13 (some 16) (v := ?vd13) rfl rfl (by kernel_rfl) (by kernel_rfl) (by kernel_rfl) (fun _ _ _ h => h) (Or.inl ⟨rfl, ?hd13⟩) hHeld ?rd13
    case hd13 => intro wq hSw; (try dsimp only at hSw); go_simp; all_goals (with_reducible rfl)
    try simp only [Act.put, List.setIfInBounds_toArray, List.set_cons_zero, List.set_cons_succ]
    refine wpAnyH_ready (rs := [14]) (by kernel_rfl) (by simp) ?_
    refine AllReadyH.cons rfl (fun K hK => ?_) AllReadyH.nil
    go_simp
    skip
    try (go_wp2_with fail)
    refine hK.out _ _ ?_ (fun hHeld => ?_)
    · exact (by first | exact KF.out _ hb0 | exact KS.out _ hb0 _ _ _ _)
    clear hK K
    try simp only [Act.put, List.setIfInBounds_toArray, List.set_cons_zero, List.set_cons_succ]
    refine wpAnyH_done (by kernel_rfl) ?_ _
    go_wp2_with fail
    refine bodyPost_ret (v := .agg #[.int .i64 kind, .string name, .string sum, .slice a3 cs.length c3]) (by simp [results, Tryd.results78, go_sem, r0, r1, r2, r3]) rfl ⟨a3, c3, rfl, ?_, ?_⟩
    · have ho : OIRow (w.heap.size + 2) x3 (.slice a3 cs.length c3) cs := HZ.out ▸ HO.out
      exact own_mono (own_set (own_set (own_set (own_set ho (by omega)) (by omega)) (by omega)) (by omega)) (by omega)
    · exact ((((bel2 HB.out hb0).setCell (by show w.heap.size ≤ w.heap.size + 1; omega) _).setCell (by show w.heap.size ≤ w.heap.size + 1; omega) _).setCell (by show w.heap.size ≤ w.heap.size + 1; omega) _).setCell (by show w.heap.size ≤ w.heap.size + 1; omega) _
end Go.Proofs.YtkpjdmmgdmbmnaaDoor.ID
