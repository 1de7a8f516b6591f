/-
  Sums of elements, and a share's weight, in the program.
-/
import Derived.Test.YtianmmonkllhpaaDoorNU
import Derived.Test.YtianmmonkllhpaaDoorL0
import Derived.Test.YtianmmonkllhpaaDoorJ2
import Derived.Test.YtianmmonkllhpaaDoorJ4
namespace Go.Proofs.YtianmmonkllhpaaDoor.L1
open Go.RowKit
open Go.Proofs.YtianmmonkllhpaaDoor.C0 Go.Proofs.YtianmmonkllhpaaDoor.HB Go.Proofs.YtianmmonkllhpaaDoor.NU
open Go.Proofs.YtianmmonkllhpaaDoor.SH (Sh Shares)
open Go.Proofs.YtianmmonkllhpaaDoor.J0 (xor_i64)
open Go.Proofs.YtianmmonkllhpaaDoor.J2 (ix dat xsOf wt joinL Fine wUp_lt wt_lt wUp_same wUp_next xs_at dat_lt at_get)

set_option maxRecDepth 100000 in
set_option maxHeartbeats 800000 in
theorem sum_impl (v : Value) (l : List Nat) (w : World) (hv : Nums w v l) (hl : ∀ i, i < l.length → l.getD i 0 < 256) :
    Calls Tryd.prog 57 #[v] w fun e w' => e = .returned (.int .i64 (Gu.sm (fun i => l.getD i 0) l.length : Nat)) ∧ w = w' := by
  obtain ⟨a, cap, rfl, hlm, hc⟩ := hv
  have H0 : Hid (Gu.sm (fun i => l.getD i 0) 0 = 0) := rfl
  go_enter Tryd.func57, Tryd.ntmps57
  go_wp2
  go_loop [3, 8] (fun s i => ∃ k : Nat, k ≤ l.length ∧ i = .int .i64 (k : Nat) ∧ s = .int .i64 (Gu.sm (fun i => l.getD i 0) k : Nat)) (fun _ i => l.length - (intOf i).toNat)
  case atStart => exact ⟨0, Nat.zero_le _, rfl, rfl⟩
  case round =>
    obtain ⟨k, hk, rfl, rfl⟩ := hrel
    have hs := Gu.sm_lt (f := fun i => l.getD i 0) k (fun i hi => hl i (by omega))
    by_cases hlt : k < l.length
    · obtain ⟨b, off, rfl, hb, hcc⟩ := hc (by omega)
      have hcell := hcc k hlt
      have hlk := hl k hlt
      have HN : Hid (Gu.sm (fun i => l.getD i 0) (k + 1) = Gu.sm (fun i => l.getD i 0) k ^^^ l.getD k 0) := rfl
      have hx := xor_i64 (Gu.sm (fun i => l.getD i 0) k) (l.getD k 0) (by omega) (by omega)
      generalize Gu.sm (fun i => l.getD i 0) k = s at *
      clear hcc hc
      generalize l.getD k 0 = y at *
      go_wp2
      go_round
      case rel => exact ⟨k + 1, by omega, by go_num, by rw [HN.out]⟩
      case measure => simp [intOf]; omega
    · obtain rfl : k = l.length := by omega
      go_wp2
      go_ret
      exact ⟨rfl, rfl⟩

/-- Two numbers in a block of their own. -/
theorem two_nums (w : World) (x y : Nat) (T : TypeId) : Nums (w.alloc (.cells #[.int .i64 (x : Nat), .int .i64 (y : Nat)] T)) (.slice (some ⟨w.heap.size, 0, none⟩) 2 2) [x, y] :=
  ⟨_, _, rfl, by simp, fun _ => ⟨_, _, rfl, by simp, fun i hi => by
    have h2 : i = 0 ∨ i = 1 := by simp at hi; omega
    rcases h2 with rfl | rfl <;> simp [go_sem]⟩⟩
theorem inv0_any (a : Nat) (w : World) (ha : a < 256) :
    Calls Tryd.prog 17 #[.int .i64 (a : Nat)] w fun e w' => e = .returned (.int .i64 (Gf.inv a : Nat)) ∧ w = w' := by
  by_cases h : 1 ≤ a
  · exact L0.inv_impl a w h ha
  · obtain rfl : a = 0 := by omega
    have := L0.inv_any ((0 : Nat) : Int) w
    rw [L0.invR_no (by omega), ← Gu.inv_zero] at this
    exact this
set_option maxRecDepth 100000 in
set_option maxHeartbeats 3200000 in
theorem weight_impl (need n k : Nat) (v : Value) (l : List Sh) (w : World) (hv : Shares w v l) (hf : Fine need n l) (hln : l.length = need) (hk : k < need) :
    Calls Tryd.prog 42 #[v, .int .i64 (k : Nat)] w fun e w' => e = .returned (.int .i64 (wt l need k : Nat)) ∧ Below w.heap.size w w' := by
  obtain ⟨a, cap, rfl, hl, hc⟩ := hv
  obtain ⟨b, off, rfl, hb, hcc⟩ := hc (by omega)
  have hn6 := hf.n6
  rw [hln] at hl ⊢
  obtain ⟨dk, hdk, k8, k1, -, -⟩ := at_get hf hk
  have hck := (hcc k _ hdk).1
  dsimp only at hck
  go_enter Tryd.func42, Tryd.ntmps42
  go_wp2
  go_loopw [5, 11] (fun s i x => ∃ q : Nat, q ≤ need ∧ i = .int .i64 (q : Nat) ∧ s = .int .i64 (Gf.wUp (xsOf l need) k q : Nat) ∧ Below w.heap.size w x) (fun _ i _ => need - (intOf i).toNat)
  case atStart => exact ⟨0, Nat.zero_le _, rfl, rfl, Below.refl _ _⟩
  case round =>
    obtain ⟨q, hq, rfl, rfl, hbel⟩ := hrel
    have hwl := wUp_lt (xsOf l need) k q
    by_cases hqt : q < need
    · have hqi : (q : Int) < (need : Int) := by omega
      have hki : (k : Int) < (need : Int) := by omega
      obtain ⟨d, hd, q8, q1, -, -⟩ := at_get hf hqt
      have hcq := hcc q _ hd
      dsimp only at hcq
      have c0 := (hbel.cell (p := ⟨b, off + q * 2, none⟩) hb).trans hcq.1
      have c1 := (hbel.cell (p := ⟨b, off + q * 2 + 1, none⟩) hb).trans hcq.2
      have HB : Hid (Below w.heap.size w wr) := hbel
      by_cases hqk : q = k
      · subst hqk
        have hqk' : ((q : Int) != (q : Int)) = false := by simp
        have HW : Hid (Gf.wUp (xsOf l need) q (q + 1) = Gf.wUp (xsOf l need) q q) := wUp_same _ _
        clear hcc hcq hbel hck hdk hd
        generalize Gf.wUp (xsOf l need) q q = wq at *
        go_wp2
        go_roundw
        case rel => exact ⟨q + 1, by omega, by go_num, by rw [HW.out], HB.out.alloc HB.out.size _⟩
        case measure => simp [intOf]; omega
      · have hqk' : ((q : Int) != (k : Int)) = true := by simp; omega
        have HW : Hid (Gf.wUp (xsOf l need) k (q + 1) = Gf.mul (Gf.wUp (xsOf l need) k q) (Gf.mul (ix l q) (Gf.inv (ix l q ^^^ ix l k)))) := by
          unfold Hid; rw [wUp_next _ _ _ hqk, xs_at l need q hqt, xs_at l need k hk, Nat.xor_comm (ix l k)]
        have g1 : ix l q ^^^ ix l k < 256 := Gf.xor_lt (by omega) (by omega)
        have g3 : Gf.inv (ix l q ^^^ ix l k) < 256 := Gf.inv_lt _ g1
        have g4 : Gf.mul (ix l q) (Gf.inv (ix l q ^^^ ix l k)) < 256 := Gf.mul_lt _ (by omega)
        have HK : Hid (∀ y, Below w.heap.size w y → y.cell? ⟨b, off + k * 2, none⟩ = some (.int .i64 (ix l k : Nat))) := fun y hy => (hy.cell (p := ⟨b, off + k * 2, none⟩) hb).trans hck
        have HS : Hid (∀ W V, Nums W V [ix l q, ix l k] → Calls Tryd.prog 57 #[V] W fun e w' => e = .returned (.int .i64 (ix l q ^^^ ix l k : Nat)) ∧ W = w') := fun W V hV => by
          have := sum_impl V [ix l q, ix l k] W hV (fun i hi => by
            have h2 : i = 0 ∨ i = 1 := by simp at hi; omega
            rcases h2 with rfl | rfl
            · show ix l q < 256; omega
            · show ix l k < 256; omega)
          rw [show Gu.sm (fun i => [ix l q, ix l k].getD i 0) [ix l q, ix l k].length = ix l q ^^^ ix l k from by
            show ((0 ^^^ ix l q) ^^^ ix l k) = _
            rw [Nat.zero_xor]] at this
          exact this
        clear hcc hcq hbel hck hdk hd hf hc
        have i8 : ix l q < 256 := by omega
        have j8 : ix l k < 256 := by omega
        generalize Gf.wUp (xsOf l need) k q = wq at *
        generalize ix l q = iq at *
        generalize ix l k = ik at *
        go_wp2_with fail
        obtain ⟨W1, hW1⟩ : ∃ x, wr.alloc (.cells #[.int .i64 (iq : Nat), .string d] 33) = x := ⟨_, rfl⟩
        have B1 : Hid (Below w.heap.size w W1) := by rw [← hW1]; exact HB.out.alloc HB.out.size _
        have Z1 : Hid (W1.heap.size = wr.heap.size + 1) := by unfold Hid; rw [← hW1]; exact asz _ _
        have G1 : Hid (∀ y, Below W1.heap.size W1 y → y.cell? ⟨wr.heap.size, 0, none⟩ = some (.int .i64 (iq : Nat)) ∧ y.cell? ⟨b, off + k * 2, none⟩ = some (.int .i64 (ik : Nat))) := fun y hy => by
          refine ⟨?_, HK.out _ (B1.out.trans (hy.mono B1.out.size))⟩
          rw [hy.cell (p := ⟨wr.heap.size, 0, none⟩) (by have := Z1.out; show wr.heap.size < _; omega), ← hW1]
          simp [go_sem]
        rw [hW1]
        clear hW1
        have HT : Hid (Nums (W1.alloc (.cells #[.int .i64 (iq : Nat), .int .i64 (ik : Nat)] 2)).drew (.slice (some ⟨W1.heap.size, 0, none⟩) 2 2) [iq, ik]) := two_nums W1 iq ik _
        have B2 : Hid (Below W1.heap.size W1 (W1.alloc (.cells #[.int .i64 (iq : Nat), .int .i64 (ik : Nat)] 2)).drew) := ((Below.refl _ _).alloc (Nat.le_refl _) _).drew
        refine wp_region_held_drew (S := (fun y => y.cell? ⟨wr.heap.size, 0, none⟩ = some (.int .i64 (iq : Nat)) ∧ y.cell? ⟨b, off + k * 2, none⟩ = some (.int .i64 (ik : Nat)))) (by kernel_rfl) (G1.out _ (Below.refl _ _).drew) (fun hHeld => ?_)
        refine TK.take_at 0 (some 19) (v := ?va0) rfl rfl (by kernel_rfl) (by kernel_rfl) (by kernel_rfl) (fun _ _ _ h => h) (Or.inl ⟨rfl, ?ha0⟩) hHeld ?ra0
        case ha0 => intro wq hSw; (try dsimp only at hSw); go_simp; all_goals (with_reducible rfl)
        try simp only [Act.put, List.setIfInBounds_toArray, List.set_cons_zero, List.set_cons_succ]
        refine TK.take_at 1 (some 20) (v := ?va1) rfl rfl (by kernel_rfl) (by kernel_rfl) (by kernel_rfl) (fun _ _ _ h => h) (Or.inl ⟨rfl, ?ha1⟩) hHeld ?ra1
        case ha1 => intro wq hSw; (try dsimp only at hSw); go_simp; all_goals (with_reducible rfl)
        try simp only [Act.put, List.setIfInBounds_toArray, List.set_cons_zero, List.set_cons_succ]
        refine TK.take_at 2 (some 21) (v := ?va2) rfl rfl (by kernel_rfl) (by kernel_rfl) (by kernel_rfl) (fun _ _ _ h => h) (Or.inl ⟨rfl, ?ha2⟩) hHeld ?ra2
        case ha2 => intro wq hSw; (try dsimp only at hSw); go_simp; all_goals (with_reducible rfl)
        try simp only [Act.put, List.setIfInBounds_toArray, List.set_cons_zero, List.set_cons_succ]
        refine TK.take_at 3 (some 22) (v := ?va3) rfl rfl (by kernel_rfl) (by kernel_rfl) (by kernel_rfl) (fun _ _ _ h => h) (Or.inl ⟨rfl, ?ha3⟩) hHeld ?ra3
        case ha3 => intro wq hSw; (try dsimp only at hSw); go_simp; all_goals (with_reducible rfl)
        try simp only [Act.put, List.setIfInBounds_toArray, List.set_cons_zero, List.set_cons_succ]
        refine TK.take_at 4 (some 23) (v := ?va4) rfl rfl (by kernel_rfl) (by kernel_rfl) (by kernel_rfl) (fun _ _ _ h => h) (Or.inl ⟨rfl, ?ha4⟩) hHeld ?ra4
        case ha4 => intro wq hSw; (try dsimp only at hSw); go_simp; all_goals (with_reducible rfl)
        try simp only [Act.put, List.setIfInBounds_toArray, List.set_cons_zero, List.set_cons_succ]
        refine TK.take_at 5 (some 24) (v := ?va5) rfl rfl (by kernel_rfl) (by kernel_rfl) (by kernel_rfl) (fun _ _ _ h => h) (Or.inl ⟨rfl, ?ha5⟩) hHeld ?ra5
        case ha5 => intro wq hSw; (try dsimp only at hSw); go_simp; all_goals (with_reducible rfl)
        try simp only [Act.put, List.setIfInBounds_toArray, List.set_cons_zero, List.set_cons_succ]
        refine TK.take_at 6 (some 25) (v := ?va6) rfl rfl (by kernel_rfl) (by kernel_rfl) (by kernel_rfl) (fun _ _ _ h => h) (Or.inl ⟨rfl, ?ha6⟩) hHeld ?ra6
        case ha6 => intro wq hSw; (try dsimp only at hSw); go_simp; all_goals (with_reducible rfl)
        try simp only [Act.put, List.setIfInBounds_toArray, List.set_cons_zero, List.set_cons_succ]
        refine wpAnyH_ready (rs := [7]) (by kernel_rfl) (by simp) ?_
        refine AllReadyH.cons rfl (fun K hK => ?_) AllReadyH.nil
        go_simp
        skip
        try (go_wp2_with fail)
        refine hK.out _ _ ?_ (fun hHeld => ?_)
        · exact G1.out _ B2.out
        clear hK K
        try simp only [Act.put, List.setIfInBounds_toArray, List.set_cons_zero, List.set_cons_succ]
        refine wpAnyH_ready (rs := [8]) (by kernel_rfl) (by simp) ?_
        refine AllReadyH.cons rfl (fun K hK => ?_) AllReadyH.nil
        go_simp
        (go_at_call 57; refine (HS.out _ _ HT.out).mono ?_; rintro e x2 ⟨rfl, rfl⟩)
        try (go_wp2_with fail)
        refine hK.out _ _ ?_ (fun hHeld => ?_)
        · exact G1.out _ B2.out
        clear hK K
        try simp only [Act.put, List.setIfInBounds_toArray, List.set_cons_zero, List.set_cons_succ]
        refine TK.take_at 9 (some 8) (v := ?va9) rfl rfl (by kernel_rfl) (by kernel_rfl) (by kernel_rfl) (fun _ _ _ h => h) (Or.inl ⟨rfl, ?ha9⟩) hHeld ?ra9
        case ha9 => intro wq hSw; (try dsimp only at hSw); go_simp; all_goals (with_reducible rfl)
        try simp only [Act.put, List.setIfInBounds_toArray, List.set_cons_zero, List.set_cons_succ]
        refine wpAnyH_done (by kernel_rfl) ?_ _
        clear hHeld
        obtain ⟨W2, hW2⟩ : ∃ x, (W1.alloc (.cells #[.int .i64 (iq : Nat), .int .i64 (ik : Nat)] 2)).drew = x := ⟨_, rfl⟩
        rw [hW2] at B2 ⊢
        clear hW2 HT
        have HC : Hid (W2.drew.cell? ⟨wr.heap.size, 0, none⟩ = some (.int .i64 (iq : Nat))) := (G1.out _ B2.out.drew).1
        have HI : Hid (∀ W, Calls Tryd.prog 17 #[.int .i64 (iq ^^^ ik : Nat)] W fun e w' => e = .returned (.int .i64 (Gf.inv (iq ^^^ ik) : Nat)) ∧ W = w') := fun W => inv0_any _ W g1
        have HM : Hid (∀ x y W, x < 256 → y < 256 → Calls Tryd.prog 15 #[.int .i64 (x : Nat), .int .i64 (y : Nat)] W fun e w' => e = .returned (.int .i64 (Gf.mul x y : Nat)) ∧ W = w') := fun x y W h1 h2 => L0.mul_impl x y W h1 h2
        generalize iq ^^^ ik = xr at *
        generalize Gf.inv xr = iv at *
        go_wp2_with fail
        refine wp_region_held_drew (S := (fun y => y.cell? ⟨wr.heap.size, 0, none⟩ = some (.int .i64 (iq : Nat)))) (by kernel_rfl) HC.out (fun hHeld => ?_)
        refine TK.take_at 0 (some 28) (v := ?vb0) rfl rfl (by kernel_rfl) (by kernel_rfl) (by kernel_rfl) (fun _ _ _ h => h) (Or.inl ⟨rfl, ?hb0⟩) hHeld ?rb0
        case hb0 => intro wq hSw; (try dsimp only at hSw); go_simp; all_goals (with_reducible rfl)
        try simp only [Act.put, List.setIfInBounds_toArray, List.set_cons_zero, List.set_cons_succ]
        refine TK.take_at 1 (some 29) (v := ?vb1) rfl rfl (by kernel_rfl) (by kernel_rfl) (by kernel_rfl) (fun _ _ _ h => h) (Or.inl ⟨rfl, ?hb1⟩) hHeld ?rb1
        case hb1 => intro wq hSw; (try dsimp only at hSw); go_simp; all_goals (with_reducible rfl)
        try simp only [Act.put, List.setIfInBounds_toArray, List.set_cons_zero, List.set_cons_succ]
        refine TK.take_at 2 (some 30) (v := ?vb2) rfl rfl (by kernel_rfl) (by kernel_rfl) (by kernel_rfl) (fun _ _ _ h => h) (Or.inl ⟨rfl, ?hb2⟩) hHeld ?rb2
        case hb2 => intro wq hSw; (try dsimp only at hSw); go_simp; all_goals (with_reducible rfl)
        try simp only [Act.put, List.setIfInBounds_toArray, List.set_cons_zero, List.set_cons_succ]
        refine TK.take_at 3 (some 31) (v := ?vb3) rfl rfl (by kernel_rfl) (by kernel_rfl) (by kernel_rfl) (fun _ _ _ h => h) (Or.inl ⟨rfl, ?hb3⟩) hHeld ?rb3
        case hb3 => intro wq hSw; (try dsimp only at hSw); go_simp; all_goals (with_reducible rfl)
        try simp only [Act.put, List.setIfInBounds_toArray, List.set_cons_zero, List.set_cons_succ]
        refine wpAnyH_ready (rs := [4]) (by kernel_rfl) (by simp) ?_
        refine AllReadyH.cons rfl (fun K hK => ?_) AllReadyH.nil
        go_simp
        (go_at_call 17; refine (HI.out _).mono ?_; rintro e x2 ⟨rfl, rfl⟩)
        try (go_wp2_with fail)
        refine hK.out _ _ ?_ (fun hHeld => ?_)
        · exact HC.out
        clear hK K
        try simp only [Act.put, List.setIfInBounds_toArray, List.set_cons_zero, List.set_cons_succ]
        refine wpAnyH_ready (rs := [5]) (by kernel_rfl) (by simp) ?_
        refine AllReadyH.cons rfl (fun K hK => ?_) AllReadyH.nil
        go_simp
        (go_at_call 15; refine (HM.out _ _ _ i8 g3).mono ?_; rintro e x2 ⟨rfl, rfl⟩)
        try (go_wp2_with fail)
        refine hK.out _ _ ?_ (fun hHeld => ?_)
        · exact HC.out
        clear hK K
        try simp only [Act.put, List.setIfInBounds_toArray, List.set_cons_zero, List.set_cons_succ]
        refine wpAnyH_ready (rs := [6]) (by kernel_rfl) (by simp) ?_
        refine AllReadyH.cons rfl (fun K hK => ?_) AllReadyH.nil
        go_simp
        (go_at_call 15; refine (HM.out _ _ _ hwl g4).mono ?_; rintro e x2 ⟨rfl, rfl⟩)
        try (go_wp2_with fail)
        refine hK.out _ _ ?_ (fun hHeld => ?_)
        · exact HC.out
        clear hK K
        try simp only [Act.put, List.setIfInBounds_toArray, List.set_cons_zero, List.set_cons_succ]
        refine TK.take_at 7 (some 5) (v := ?vb7) rfl rfl (by kernel_rfl) (by kernel_rfl) (by kernel_rfl) (fun _ _ _ h => h) (Or.inl ⟨rfl, ?hb7⟩) hHeld ?rb7
        case hb7 => intro wq hSw; (try dsimp only at hSw); go_simp; all_goals (with_reducible rfl)
        try simp only [Act.put, List.setIfInBounds_toArray, List.set_cons_zero, List.set_cons_succ]
        refine wpAnyH_done (by kernel_rfl) ?_ _
        clear hHeld
        go_wp2
        go_roundw
        case rel => exact ⟨q + 1, by omega, by go_num, by rw [HW.out], (B1.out.trans (B2.out.mono B1.out.size)).drew⟩
        case measure => simp [intOf]; omega
    · obtain rfl : q = need := by omega
      have HB : Hid (Below w.heap.size w wr) := hbel
      have HW : Hid (Gf.wUp (xsOf l q) k q = wt l q k) := rfl
      rw [HW.out]
      clear hbel hcc
      go_wp2
      go_ret
      exact ⟨rfl, HB.out⟩
end Go.Proofs.YtianmmonkllhpaaDoor.L1
