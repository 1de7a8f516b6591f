/-
  A byte of what shares hide, in the program.
-/
import Derived.Test.YtianmmonkllhpaaDoorL1
import Derived.Test.YtianmmonkllhpaaDoorTK
namespace Go.Proofs.YtianmmonkllhpaaDoor.L3
open Go.RowKit
open Go.Proofs.YtianmmonkllhpaaDoor.C0 Go.Proofs.YtianmmonkllhpaaDoor.HB Go.Proofs.YtianmmonkllhpaaDoor.NU
open Go.Proofs.YtianmmonkllhpaaDoor.SH (Sh Shares)
open Go.Proofs.YtianmmonkllhpaaDoor.J2 (ix dat xsOf wt joinL Fine wUp_lt wt_lt dat_lt at_get)

/-- The terms of a byte. -/
def tl (l : List Sh) (ws : List Nat) (j q : Nat) : List Nat := (List.range q).map fun i => Gf.mul (dat l j i) (ws.getD i 0)
theorem tl_length (l : List Sh) (ws : List Nat) (j q : Nat) : (tl l ws j q).length = q := by simp [tl]
theorem tl_succ (l : List Sh) (ws : List Nat) (j q : Nat) : tl l ws j (q + 1) = tl l ws j q ++ [Gf.mul (dat l j q) (ws.getD q 0)] := by simp [tl, List.range_succ]
theorem tl_at (l : List Sh) (ws : List Nat) (j q i : Nat) (h : i < q) : (tl l ws j q).getD i 0 = Gf.mul (dat l j i) (ws.getD i 0) := by simp [tl, h]
theorem tl_sum (l : List Sh) (ws : List Nat) (j need : Nat) (hws : ∀ i, i < need → ws.getD i 0 = wt l need i) :
    Gu.sm (fun i => (tl l ws j need).getD i 0) (tl l ws j need).length = Gf.jUp (wt l need) (dat l j) need := by
  rw [tl_length, Gu.jUp_sm]
  refine Gu.sm_congr _ (fun i hi => ?_)
  show (tl l ws j need).getD i 0 = _
  rw [tl_at _ _ _ _ _ hi, hws i hi]
  exact Gu.mul_comm _ _ (dat_lt _ _ _) (wt_lt _ _ _)
/-- What a row of terms, of the call's own, is behind what was made. -/
structure Gro (B : Nat) (w : World) (t : Value) (l : List Nat) (x : World) : Prop where
  own : ONums B x t l
  bel : Below B w x
  size : B ≤ x.heap.size
theorem Gro.below {B : Nat} {w x y : World} {t : Value} {l : List Nat} (h : Gro B w t l x) (hb : Below x.heap.size x y) : Gro B w t l y :=
  ⟨h.own.below hb, h.bel.trans (hb.mono h.size), Nat.le_trans h.size hb.size⟩
theorem one_num (w : World) (m : Nat) (T : TypeId) : ∀ j u, [Value.int .i64 (m : Nat)][j]? = some u → (w.alloc (.cells #[.int .i64 (m : Nat)] T)).drew.cell? ((⟨w.heap.size, 0, none⟩ : Addr).add j) = some u := fun j u hu => by
  have hj : j = 0 := by
    rcases Nat.eq_zero_or_pos j with h | h
    · exact h
    · rw [List.getElem?_eq_none (by simp; omega)] at hu; cases hu
  subst hj
  rw [NU.add0]
  simp at hu
  subst hu
  simp [go_sem]
theorem one_num' (w : World) (m : Nat) (T : TypeId) : ∀ j u, [Value.int .i64 (m : Nat)][j]? = some u → (w.alloc (.cells #[.int .i64 (m : Nat)] T)).cell? ((⟨w.heap.size, 0, none⟩ : Addr).add j) = some u := one_num w m T

set_option maxRecDepth 100000 in
set_option maxHeartbeats 3200000 in
theorem byte_impl (need n j : Nat) (v wv : Value) (l : List Sh) (ws : List Nat) (w : World) (hv : Shares w v l) (hw : Nums w wv ws) (hf : Fine need n l) (hln : l.length = need) (hwn : ws.length = need) (hws : ∀ i, i < need → ws.getD i 0 = wt l need i) (hj : j < n) :
    Calls Tryd.prog 43 #[v, wv, .int .i64 (j : Nat)] w fun e w' => e = .returned (.int .u8 (Gf.jUp (wt l need) (dat l j) need : Nat)) ∧ Below w.heap.size w w' := by
  obtain ⟨a, cap, rfl, hl, hc⟩ := hv
  obtain ⟨b, off, rfl, hb, hcc⟩ := hc (by have := hf.n1; omega)
  obtain ⟨a2, cap2, rfl, hl2, hc2⟩ := hw
  obtain ⟨b2, off2, rfl, hb2, hcc2⟩ := hc2 (by have := hf.n1; omega)
  have hn6 := hf.n6
  rw [hln] at hl ⊢
  rw [hwn] at hl2 hcc2 ⊢
  clear hc hc2
  have HRES : Hid (Gu.sm (fun i => (tl l ws j need).getD i 0) (tl l ws j need).length = Gf.jUp (wt l need) (dat l j) need) := tl_sum l ws j need hws
  have HJL : Gf.jUp (wt l need) (dat l j) need < 256 := Gf.jUp_lt (wt_lt l need) _ _
  have HTL : Hid (∀ i, i < need → (tl l ws j need).getD i 0 < 256) := fun i hi => by rw [tl_at _ _ _ _ _ hi]; exact Gf.mul_lt _ (dat_lt _ _ _)
  have HW : Hid (∀ i, i < need → ws.getD i 0 < 256) := fun i hi => by rw [hws i hi]; exact wt_lt _ _ _
  have H0 : Hid (Gro w.heap.size w (.slice none 0 0) (tl l ws j 0) w) := ⟨ONums.nil _ _, Below.refl _ _, Nat.le_refl _⟩
  generalize Gf.jUp (wt l need) (dat l j) need = res at *
  clear hws
  go_enter Tryd.func43, Tryd.ntmps43
  go_wp2
  go_loopw [7, 12] (fun t i x => ∃ q : Nat, q ≤ need ∧ i = .int .i64 (q : Nat) ∧ Gro w.heap.size w t (tl l ws j q) x) (fun _ i _ => need - (intOf i).toNat)
  case atStart => exact ⟨0, Nat.zero_le _, rfl, H0.out⟩
  case round =>
    obtain ⟨q, hq, rfl, hgro⟩ := hrel
    by_cases hqt : q < need
    · have hqi : (q : Int) < (need : Int) := by omega
      obtain ⟨d, hd, -, -, hds, hdat⟩ := at_get hf hqt
      have hcq := hcc q _ hd
      dsimp only at hcq
      have c0 := (hgro.bel.cell (p := ⟨b, off + q * 2, none⟩) hb).trans hcq.1
      have c1 := (hgro.bel.cell (p := ⟨b, off + q * 2 + 1, none⟩) hb).trans hcq.2
      have hjd : j < d.size := by omega
      have hji : (j : Int) < (d.size : Int) := by omega
      have hdj := hdat j hjd
      have hdl := dat_lt l j q
      have hwq := HW.out q hqt
      have HG : Hid (Gro w.heap.size w u7 (tl l ws j q) wr) := hgro
      have HC2 : Hid (∀ y, Below w.heap.size w y → y.cell? ⟨b2, off2 + q, none⟩ = some (.int .i64 (ws.getD q 0 : Nat))) := fun y hy => (hy.cell (p := ⟨b2, off2 + q, none⟩) hb2).trans (hcc2 q hqt)
      have hml : Gf.mul (dat l j q) (ws.getD q 0) < 256 := Gf.mul_lt _ hdl
      have HM : Hid (∀ W, Calls Tryd.prog 15 #[.int .i64 (dat l j q : Nat), .int .i64 (ws.getD q 0 : Nat)] W fun e w' => e = .returned (.int .i64 (Gf.mul (dat l j q) (ws.getD q 0) : Nat)) ∧ W = w') := fun W => L0.mul_impl _ _ W hdl hwq
      have HT : Hid (tl l ws j (q + 1) = tl l ws j q ++ [Gf.mul (dat l j q) (ws.getD q 0)]) := tl_succ l ws j q
      have HTn : Hid ((tl l ws j q).length = q) := tl_length l ws j q
      have hw64 : IntKind.i64.wrap ((dat l j q : Nat) : Int) = ((dat l j q : Nat) : Int) := by rw [IntKind.wrap_i64]; omega
      clear hgro hcc hcc2 hcq hd hdat
      generalize Gf.mul (dat l j q) (ws.getD q 0) = mq at *
      generalize dat l j q = dq at *
      generalize ws.getD q 0 = wq at *
      generalize tl l ws j q = L1 at *
      go_wp2_with fail
      obtain ⟨o0, ho0⟩ : ∃ x, (Obj.cells #[.int .i64 (ix l q : Nat), .string d] 33) = x := ⟨_, rfl⟩
      obtain ⟨W1, hW1⟩ : ∃ x, wr.alloc (.cells #[.int .i64 (ix l q : Nat), .string d] 33) = x := ⟨_, rfl⟩
      have B1 : Hid (Below wr.heap.size wr W1) := by rw [← hW1]; exact albel _ _
      have Z1 : Hid (W1.heap.size = wr.heap.size + 1) := by unfold Hid; rw [← hW1]; exact asz _ _
      have K1 : Hid (∀ y : World, y.heap[wr.heap.size]? = W1.heap[wr.heap.size]? → y.cell? ⟨wr.heap.size, 1, none⟩ = some (.string d)) := fun y hy => by
        rw [World.cell?_of_block (w := W1) (a := ⟨wr.heap.size, 1, none⟩) hy, ← hW1]
        simp [go_sem]
      rw [hW1]
      clear hW1 ho0 o0 c0 c1
      have G1 : Hid (Gro w.heap.size w u7 L1 W1) := HG.out.below B1.out
      have SS : Hid (∀ y, Below W1.heap.size W1 y → y.cell? ⟨wr.heap.size, 1, none⟩ = some (.string d) ∧ y.cell? ⟨b2, off2 + q, none⟩ = some (.int .i64 (wq : Nat))) := fun y hy =>
        ⟨K1.out y (hy.block _ (by have := Z1.out; omega)), HC2.out y (G1.out.bel.trans (hy.mono G1.out.size))⟩
      have B2 : Hid (Below W1.heap.size W1 (W1.alloc (.cells #[.int .i64 (mq : Nat)] 2)).drew) := (albel _ _).drew
      have G2 : Hid (Gro w.heap.size w u7 L1 (W1.alloc (.cells #[.int .i64 (mq : Nat)] 2)).drew) := G1.out.below B2.out
      have SG : Hid (∀ y, (W1.alloc (.cells #[.int .i64 (mq : Nat)] 2)).drew.grownBy y u7.ownBlock → y.cell? ⟨wr.heap.size, 1, none⟩ = some (.string d) ∧ y.cell? ⟨b2, off2 + q, none⟩ = some (.int .i64 (wq : Nat))) := fun y hy => by
        have hlt : ∀ k, u7.ownBlock = some k → w.heap.size ≤ k ∧ k < wr.heap.size := fun k hk => HG.out.own.lt k hk
        have hz2 := B2.out.size
        have z1 := Z1.out
        refine ⟨K1.out y ?_, HC2.out y (grown_bel G2.out.bel G2.out.own hy G2.out.size)⟩
        rw [hy.block wr.heap.size (by omega) (fun e => by have := (hlt _ e.symm).2; omega)]
        exact B2.out.block _ (by omega)
      refine wp_region_held_drew (S := (fun y => y.cell? ⟨wr.heap.size, 1, none⟩ = some (.string d) ∧ y.cell? ⟨b2, off2 + q, none⟩ = some (.int .i64 (wq : Nat)))) (by kernel_rfl) (SS.out _ (Below.refl _ _).drew) (fun hHeld => ?_)
      refine TK.take_at 0 (some 17) (v := ?va0) rfl rfl (by kernel_rfl) (by kernel_rfl) (by kernel_rfl) (fun _ _ _ h => h) (Or.inl ⟨rfl, ?ha0⟩) hHeld ?ra0
      case ha0 => intro wq hSw; (try dsimp only at hSw); go_simp; all_goals (with_reducible rfl)
      try simp only [Act.put, List.setIfInBounds_toArray, List.set_cons_zero, List.set_cons_succ]
      refine TK.take_at 1 (some 18) (v := ?va1) rfl rfl (by kernel_rfl) (by kernel_rfl) (by kernel_rfl) (fun _ _ _ h => h) (Or.inl ⟨rfl, ?ha1⟩) hHeld ?ra1
      case ha1 => intro wq hSw; (try dsimp only at hSw); go_simp; all_goals (with_reducible rfl)
      try simp only [Act.put, List.setIfInBounds_toArray, List.set_cons_zero, List.set_cons_succ]
      refine TK.take_at 2 (some 19) (v := ?va2) rfl rfl (by kernel_rfl) (by kernel_rfl) (by kernel_rfl) (fun _ _ _ h => h) (Or.inl ⟨rfl, ?ha2⟩) hHeld ?ra2
      case ha2 => intro wq hSw; (try dsimp only at hSw); go_simp; all_goals (with_reducible rfl)
      try simp only [Act.put, List.setIfInBounds_toArray, List.set_cons_zero, List.set_cons_succ]
      refine TK.take_at 3 (some 20) (v := ?va3) rfl rfl (by kernel_rfl) (by kernel_rfl) (by kernel_rfl) (fun _ _ _ h => h) (Or.inl ⟨rfl, ?ha3⟩) hHeld ?ra3
      case ha3 => intro wq hSw; (try dsimp only at hSw); go_simp; all_goals (with_reducible rfl)
      try simp only [Act.put, List.setIfInBounds_toArray, List.set_cons_zero, List.set_cons_succ]
      refine TK.take_at 4 (some 21) (v := ?va4) rfl rfl (by kernel_rfl) (by kernel_rfl) (by kernel_rfl) (fun _ _ _ h => h) (Or.inl ⟨rfl, ?ha4⟩) hHeld ?ra4
      case ha4 => intro wq hSw; (try dsimp only at hSw); go_simp; all_goals (with_reducible rfl)
      try simp only [Act.put, List.setIfInBounds_toArray, List.set_cons_zero, List.set_cons_succ]
      refine TK.take_at 5 (some 22) (v := ?va5) rfl rfl (by kernel_rfl) (by kernel_rfl) (by kernel_rfl) (fun _ _ _ h => h) (Or.inl ⟨rfl, ?ha5⟩) hHeld ?ra5
      case ha5 => intro wq hSw; (try dsimp only at hSw); go_simp; all_goals (with_reducible rfl)
      try simp only [Act.put, List.setIfInBounds_toArray, List.set_cons_zero, List.set_cons_succ]
      refine TK.take_at 6 (some 23) (v := ?va6) rfl rfl (by kernel_rfl) (by kernel_rfl) (by kernel_rfl) (fun _ _ _ h => h) (Or.inl ⟨rfl, ?ha6⟩) hHeld ?ra6
      case ha6 => intro wq hSw; (try dsimp only at hSw); go_simp; all_goals (with_reducible rfl)
      try simp only [Act.put, List.setIfInBounds_toArray, List.set_cons_zero, List.set_cons_succ]
      refine TK.take_at 7 (some 24) (v := ?va7) rfl rfl (by kernel_rfl) (by kernel_rfl) (by kernel_rfl) (fun _ _ _ h => h) (Or.inl ⟨rfl, ?ha7⟩) hHeld ?ra7
      case ha7 => intro wq hSw; (try dsimp only at hSw); go_simp; all_goals (with_reducible rfl)
      try simp only [Act.put, List.setIfInBounds_toArray, List.set_cons_zero, List.set_cons_succ]
      refine TK.take_at 8 (some 25) (v := ?va8) rfl rfl (by kernel_rfl) (by kernel_rfl) (by kernel_rfl) (fun _ _ _ h => h) (Or.inl ⟨rfl, ?ha8⟩) hHeld ?ra8
      case ha8 => intro wq hSw; (try dsimp only at hSw); go_simp; all_goals (with_reducible rfl)
      try simp only [Act.put, List.setIfInBounds_toArray, List.set_cons_zero, List.set_cons_succ]
      refine TK.take_at 9 (some 26) (v := ?va9) rfl rfl (by kernel_rfl) (by kernel_rfl) (by kernel_rfl) (fun _ _ _ h => h) (Or.inl ⟨rfl, ?ha9⟩) hHeld ?ra9
      case ha9 => intro wq hSw; (try dsimp only at hSw); go_simp; all_goals (with_reducible rfl)
      try simp only [Act.put, List.setIfInBounds_toArray, List.set_cons_zero, List.set_cons_succ]
      refine wpAnyH_ready (rs := [10]) (by kernel_rfl) (by simp) ?_
      refine AllReadyH.cons rfl (fun K hK => ?_) AllReadyH.nil
      go_simp
      (go_at_call 15; refine (HM.out _).mono ?_; rintro e x2 ⟨rfl, rfl⟩)
      try (go_wp2_with fail)
      refine hK.out _ _ ?_ (fun hHeld => ?_)
      · exact (by first | exact hHeld | exact SS.out _ B2.out | exact SG.out _ hgrow)
      clear hK K
      try simp only [Act.put, List.setIfInBounds_toArray, List.set_cons_zero, List.set_cons_succ]
      refine wpAnyH_ready (rs := [11]) (by kernel_rfl) (by simp) ?_
      refine AllReadyH.cons rfl (fun K hK => ?_) AllReadyH.nil
      go_simp
      skip
      try (go_wp2_with fail)
      refine hK.out _ _ ?_ (fun hHeld => ?_)
      · exact (by first | exact hHeld | exact SS.out _ B2.out | exact SG.out _ hgrow)
      clear hK K
      try simp only [Act.put, List.setIfInBounds_toArray, List.set_cons_zero, List.set_cons_succ]
      refine wpAnyH_ready (rs := [12]) (by kernel_rfl) (by simp) ?_
      refine AllReadyH.cons rfl (fun K hK => ?_) AllReadyH.nil
      (refine NU.step_app (by rfl) _ _ 48 2 (by rfl) w.heap.size (.int .i64 0) 1 8 Tryd.underlying48 NU.info_int (by rfl) (by decide) (by decide) u7 _ _ (by rfl) G2.out.own (by have := HTn.out; omega) ⟨W1.heap.size, 0, none⟩ 1 [.int .i64 (mq : Nat)] (by rfl) (by rfl) (one_num _ _ _) (by simp [Value.oneCell']) G2.out.size ?_; intro gg cap1 xn hown1 hgrow hat hlt1)
      refine hK.out _ _ ?_ (fun hHeld => ?_)
      · exact (by first | exact hHeld | exact SS.out _ B2.out | exact SG.out _ hgrow)
      clear hK K
      (try simp only [Act.put]); (try simp only [List.setIfInBounds_toArray]); (try simp only [List.set_cons_succ]); (try simp only [List.set_cons_zero])
      refine TK.take_at 13 (some 7) (v := ?va13) rfl rfl (by kernel_rfl) (by kernel_rfl) (by kernel_rfl) (fun _ _ _ h => h) (Or.inl ⟨rfl, ?ha13⟩) hHeld ?ra13
      case ha13 => intro wq hSw; (try dsimp only at hSw); go_simp; all_goals (with_reducible rfl)
      (try simp only [Act.put]); (try simp only [List.setIfInBounds_toArray]); (try simp only [List.set_cons_succ]); (try simp only [List.set_cons_zero])
      refine wpAnyH_done (by kernel_rfl) ?_ _
      have HE : Hid (Gro w.heap.size w (.slice (some ⟨gg, 0, none⟩) (L1.length + 1) cap1) (tl l ws j (q + 1)) xn) :=
        ⟨by rw [HT.out]; exact ONums.of hown1, grown_bel G2.out.bel G2.out.own hgrow G2.out.size, Nat.le_trans G2.out.size hgrow.size⟩
      clear hown1 hgrow hat hlt1 hHeld
      go_wp2
      go_roundw
      case rel => exact ⟨q + 1, by omega, by go_num, HE.out⟩
      case measure => simp [intOf]; omega
    · obtain rfl : q = need := by omega
      have HN : Hid (Nums wr u7 (tl l ws j q)) := hgro.own.nums (by rw [tl_length]; omega)
      have HB : Hid (Below w.heap.size w wr) := hgro.bel
      have HTn : Hid ((tl l ws j q).length = q) := tl_length l ws j q
      clear hgro
      go_wp2_with fail
      refine (L1.sum_impl _ _ _ HN.out (fun i hi => HTL.out i (by rw [HTn.out] at hi; exact hi))).mono ?_
      rintro e x2 ⟨rfl, rfl⟩
      rw [HRES.out]
      have hw8 : IntKind.u8.wrap (res : Int) = (res : Int) := by rw [IntKind.wrap_u8]; omega
      go_wp2
      go_ret
      exact ⟨rfl, HB.out⟩
end Go.Proofs.YtianmmonkllhpaaDoor.L3
