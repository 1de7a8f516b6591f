/-
  The walk of the exact law on AuditAdd.
-/
import Derived.Test.YtkpjdmmgdmbmnaaDoorIM
import Derived.Test.YtkpjdmmgdmbmnaaDoorIT
namespace Go.Proofs.YtkpjdmmgdmbmnaaDoor.YAuditAdd
open Go.RowKit
open Go.Proofs.YtkpjdmmgdmbmnaaDoor.C0 Go.Proofs.YtkpjdmmgdmbmnaaDoor.HB
open Go.Proofs.YtkpjdmmgdmbmnaaDoor.A0 Go.Proofs.YtkpjdmmgdmbmnaaDoor.A1 Go.Proofs.YtkpjdmmgdmbmnaaDoor.A3 Go.Proofs.YtkpjdmmgdmbmnaaDoor.A4 Go.Proofs.YtkpjdmmgdmbmnaaDoor.A6 Go.Proofs.YtkpjdmmgdmbmnaaDoor.A7 Go.Proofs.YtkpjdmmgdmbmnaaDoor.A8 Go.Proofs.YtkpjdmmgdmbmnaaDoor.AB Go.Proofs.YtkpjdmmgdmbmnaaDoor.I1 Go.Proofs.YtkpjdmmgdmbmnaaDoor.I4 Go.Proofs.YtkpjdmmgdmbmnaaDoor.IF Go.Proofs.YtkpjdmmgdmbmnaaDoor.IH Go.Proofs.YtkpjdmmgdmbmnaaDoor.IN Go.Proofs.YtkpjdmmgdmbmnaaDoor.IV Go.Proofs.YtkpjdmmgdmbmnaaDoor.IT
theorem okA_next {ls : List Ln} {ks : List ByteArray} {r : Int} (h : okA ls ks 1048576 r) (h0 : 0 ≤ r) : r ≤ 1048576 ∧ ls.length ≤ 1048576 ∧ (∀ x ∈ ls, x.cards.length ≤ 1048576) ∧ ks.length ≤ 1048576 := by
  rcases h with hr | ⟨_, h, h1, h2, h3, _⟩
  · omega
  · exact ⟨by omega, by omega, fun x hx => by have := h2 x hx; omega, by omega⟩
/-- What is answered is a short log. -/
theorem add_small {ls : List Ln} {ks : List ByteArray} {x : Ln} (hl : ∀ y ∈ ls, y.cards.length ≤ 1048576) (hx : x.cards.length ≤ 1048576) : (addL ls ks x).length ≤ 1048576 ∧ (∀ y ∈ addL ls ks x, y.cards.length ≤ 1048576) ∧ (addK ls ks x).length ≤ 1048576 := by
  by_cases h : addC ls ks x = 0
  · have hc : addC ls ks x = if auditB linkT ls ks = true ∧ lineB x = true then (if ls.length = 12 then 9 else 0) else 1 := rfl
    have hn : ls.length ≤ 12 := by
      rw [h] at hc
      by_cases g : auditB linkT ls ks = true ∧ lineB x = true
      · have := g.1
        unfold auditB at this
        simp only [Bool.and_eq_true, decide_eq_true_eq] at this
        exact this.1
      · rw [if_neg g] at hc; omega
    have e1 : addL ls ks x = ls ++ [x] := by unfold addL; rw [if_pos h]
    have e2 : (addK ls ks x).length = ls.length + 1 := by unfold addK; rw [if_pos h]; simp
    rw [e1]
    refine ⟨by simp; omega, fun y hy => ?_, by omega⟩
    rcases List.mem_append.1 hy with hy | hy
    · exact hl y hy
    · rw [List.mem_singleton.1 hy]; exact hx
  · have e1 : addL ls ks x = [] := by unfold addL; rw [if_neg h]
    have e2 : addK ls ks x = [] := by unfold addK; rw [if_neg h]
    rw [e1, e2]
    exact ⟨by simp, fun y hy => by simp at hy, by simp⟩
/-- What lies in memory while the law's own copies are whole. -/
structure Pk (w3 : World) (C g4 g8 g9 : Nat) (u1 u2 : Value) (ls : List Ln) (ks : List ByteArray) (vd : Nat → Value) (o : Value) (cs : List Int) (t1 t2 : Value) (ll : List Ln) (kk : List ByteArray) (ve : Nat → Value) (b1 b2 b3 : Obj) (y : World) : Prop where
  v : OLv w3.heap.size y u1 ls vd
  s : OT w3.heap.size y u2 ks
  o : OIRow w3.heap.size y o cs
  t : OLv C y t1 ll ve
  k : OT C y t2 kk
  x0 : y.heap[g4]? = some b1
  x1 : y.heap[g8]? = some b2
  g0 : y.heap[g9]? = some b3
  b : Below w3.heap.size w3 y
theorem Pk.below {w3 : World} {C g4 g8 g9 : Nat} {u1 u2 : Value} {ls : List Ln} {ks : List ByteArray} {vd : Nat → Value} {o : Value} {cs : List Int} {t1 t2 : Value} {ll : List Ln} {kk : List ByteArray} {ve : Nat → Value} {b1 b2 b3 : Obj} {y y' : World}
    (h : Pk w3 C g4 g8 g9 u1 u2 ls ks vd o cs t1 t2 ll kk ve b1 b2 b3 y) (hb : Below y.heap.size y y') : Pk w3 C g4 g8 g9 u1 u2 ls ks vd o cs t1 t2 ll kk ve b1 b2 b3 y' :=
  ⟨h.v.below hb, h.s.below hb, h.o.below hb, h.t.below hb, h.k.below hb, carry h.x0 hb, carry h.x1 hb, carry h.g0 hb, bel2 h.b hb⟩
set_option maxRecDepth 100000 in
set_option maxHeartbeats 6400000 in
theorem walk (va ka : Value) (ls : List Ln) (ks : List ByteArray) (x : Ln) (vx : Value) (w : World) (hL : K2.Laid w) (hv : LRow w va ls) (hu : SRow w ka ks) (hw : ∀ y ∈ ls, LnW y) (hz : ∀ s ∈ ks, s.size ≤ maxLen) (hi : IRow w vx x.cards) (wx : LnW x) :
    Calls Tryd.prog 5 #[.agg #[va, ka], lnV x vx] w fun e w' => e = .returned (.bool true) ∧ Below w.heap.size w w' := by
  have HSA : Hid (∀ W, Below w.heap.size w W → Calls Tryd.prog 25 #[.agg #[va, ka], .int .i64 1048576] W fun e w' => ∃ r, e = .returned (.int .i64 r) ∧ okA ls ks 1048576 r ∧ Below W.heap.size W w') := fun W hW => szAudit_any va ka ls ks 1048576 W (hv.below hW) (hu.below hW) hw hz (by omega) (by omega)
  have HSX : Hid (∀ r : Int, 0 ≤ r → r ≤ 1048576 → ∀ W, Below w.heap.size w W → Calls Tryd.prog 28 #[lnV x vx, .int .i64 r] W fun e w' => ∃ q, e = .returned (.int .i64 q) ∧ okLn x r q ∧ Below W.heap.size W w') := fun r h0 h1 W hW => szLine_any x vx r W (hi.below hW) wx h0 h1
  have HTA : Hid (ls.length ≤ 1048576 ∧ (∀ y ∈ ls, y.cards.length ≤ 1048576) ∧ ks.length ≤ 1048576 → ∀ W, Below w.heap.size w W → Calls Tryd.prog 26 #[.agg #[va, ka]] W fun e w' => ∃ ul uk, e = .returned (.agg #[ul, uk]) ∧ OLs W.heap.size w' ul ls ∧ OT W.heap.size w' uk ks ∧ Below W.heap.size W w') := fun h W hW => IQ.toAudit_own va ka ls ks W (hv.below hW) (hu.below hW) h.1 h.2.1 h.2.2
  have HTX : Hid (x.cards.length ≤ 1048576 → ∀ W, Below w.heap.size w W → Calls Tryd.prog 29 #[lnV x vx] W fun e w' => ∃ vd, e = .returned (lnV x vd) ∧ OIRow W.heap.size w' vd x.cards ∧ Below W.heap.size W w') := fun h W hW => toLine_any x vx W (hi.below hW) h
  have HEA : Hid (∀ W ul uk tl tk, LRow W ul ls → SRow W uk ks → LRow W tl ls → SRow W tk ks → Calls Tryd.prog 27 #[.agg #[ul, uk], .agg #[tl, tk]] W fun e w' => e = .returned (.bool true) ∧ Below W.heap.size W w') := fun W ul uk tl tk a b c d => eqAudit_same ul uk tl tk ls ks W a b c d
  have HEX : Hid (∀ W vd ve, IRow W vd x.cards → IRow W ve x.cards → Calls Tryd.prog 31 #[lnV x vd, lnV x ve] W fun e w' => e = .returned (.bool true) ∧ Below W.heap.size W w') := fun W vd ve a b => eqLine_same x vd ve W a b
  have HS : Hid (∀ W ul uk vd, LRow W ul ls → SRow W uk ks → IRow W vd x.cards → Calls Tryd.prog 9 #[.agg #[ul, uk], lnV x vd] W fun e w' => ∃ tl tk, e = .returned (.agg #[tl, tk, .int .i64 (addC ls ks x)]) ∧ OLs W.heap.size w' tl (addL ls ks x) ∧ OT W.heap.size w' tk (addK ls ks x) ∧ Below W.heap.size W w') := fun W ul uk vd a b c => IM.add_spec ul uk vd ls ks x W a b hw c wx
  have HI : Hid (∀ W, Below w.heap.size w W → ∀ ul uk vd, LRow W ul ls → SRow W uk ks → IRow W vd x.cards → Calls Tryd.prog 8 #[.agg #[ul, uk], lnV x vd] W fun e w' => ∃ tl tk, e = .returned (.agg #[tl, tk, .int .i64 (addC ls ks x)]) ∧ OLs W.heap.size w' tl (addL ls ks x) ∧ OT W.heap.size w' tk (addK ls ks x) ∧ Below W.heap.size W w') := fun W hW ul uk vd a b c => IH.add_impl ul uk vd ls ks x W (hL.below hW) a b hw c wx
  have HE : Hid (∀ W vl vk ul uk, LRow W vl (addL ls ks x) → SRow W vk (addK ls ks x) → LRow W ul (addL ls ks x) → SRow W uk (addK ls ks x) → Calls Tryd.prog 30 #[.agg #[vl, vk, .int .i64 (addC ls ks x)], .agg #[ul, uk, .int .i64 (addC ls ks x)]] W fun e w' => e = .returned (.bool true) ∧ Below W.heap.size W w') := fun W vl vk ul uk a b c d => eqOut_same vl vk ul uk _ _ _ W a b c d
  have HSM : Hid ((∀ y ∈ ls, y.cards.length ≤ 1048576) → x.cards.length ≤ 1048576 → (addL ls ks x).length ≤ 1048576 ∧ (∀ y ∈ addL ls ks x, y.cards.length ≤ 1048576) ∧ (addK ls ks x).length ≤ 1048576) := add_small
  generalize addC ls ks x = c at *
  generalize addL ls ks x = ll at *
  generalize addK ls ks x = kk at *
  obtain ⟨a1, c1, rfl, _, _⟩ := hv
  obtain ⟨a2, c2, rfl, _, _⟩ := hu
  obtain ⟨a3, c3, rfl, _, _⟩ := hi
  obtain ⟨kind, name, sum, cs⟩ := x
  unfold lnV at HSX HTX HEX HS HI ⊢
  dsimp only at HSX HTX HEX HS HI HSM ⊢
  have KA := heap_alloc_new w (.cells #[.slice a1 ls.length c1, .slice a2 ks.length c2] 48)
  have BA := albel w (.cells #[.slice a1 ls.length c1, .slice a2 ks.length c2] 48)
  have KA2 := carryA KA (.cells #[.int .i64 kind, .string name, .string sum, .slice a3 cs.length c3] 52)
  have BA2 := BA.alloc BA.size (.cells #[.int .i64 kind, .string name, .string sum, .slice a3 cs.length c3] 52)
  have KB2 := heap_alloc_new (w.alloc (.cells #[.slice a1 ls.length c1, .slice a2 ks.length c2] 48)) (.cells #[.int .i64 kind, .string name, .string sum, .slice a3 cs.length c3] 52)
  rw [asz] at KB2
  clear KA BA hw hz wx hL
  have kA : Hid _ := KA2
  have kB : Hid _ := KB2
  have b0 : Hid _ := BA2
  clear KA2 KB2 BA2
  go_enter Tryd.func5, Tryd.ntmps5
  go_wp2_with fail
  refine (HSA.out _ b0.out).mono ?_
  rintro e w1 ⟨r, rfl, hr, hb1⟩
  have b1 : Hid (Below w.heap.size w w1) := bel2 b0.out hb1
  have kA1 : Hid _ := carry kA.out hb1
  have kB1 : Hid _ := carry kB.out hb1
  clear hb1 kA kB b0 HSA
  by_cases h0 : r < 0
  · clear hr
    go_wp2
    go_ret
    exact ⟨rfl, b1.out⟩
  have HR : Hid _ := okA_next hr (by omega)
  clear hr
  have hr1 := HR.out.1
  obtain ⟨p0, p1, p2, p3, pf⟩ := blk4f kB1.out
  go_wp2_with fail
  refine (HSX.out r (by omega) hr1 _ b1.out).mono ?_
  rintro e w2 ⟨q, rfl, hq, hb2⟩
  have b2 : Hid (Below w.heap.size w w2) := bel2 b1.out hb2
  have kA2 : Hid _ := carry kA1.out hb2
  have kB2 : Hid _ := carry kB1.out hb2
  clear hb2 kA1 kB1 b1 HSX p0 p1 p2 p3 pf
  by_cases h1 : q < 0
  · clear hq
    go_wp2
    go_ret
    exact ⟨rfl, b2.out⟩
  have hcl : cs.length ≤ 1048576 := by
    rcases hq with hq | ⟨_, _, _, _, hq⟩
    · omega
    · dsimp only at hq; omega
  have HTA2 : Hid _ := HTA.out HR.out.2
  have HTX2 : Hid _ := HTX.out hcl
  have HZL : Hid (ll.length ≤ 1048576 ∧ (∀ y ∈ ll, y.cards.length ≤ 1048576) ∧ kk.length ≤ 1048576) := HSM.out HR.out.2.2.1 hcl
  have HZA : Hid (ls.length ≤ 1048576 ∧ (∀ y ∈ ls, y.cards.length ≤ 1048576) ∧ ks.length ≤ 1048576) := HR.out.2
  have HZM : Hid (ls.length ≤ maxLen ∧ ll.length ≤ maxLen) := ⟨Nat.le_trans HZA.out.1 (by decide), Nat.le_trans HZL.out.1 (by decide)⟩
  clear hq HTA HTX HR hr1 HSM
  go_upto_region 8 with fail
  have KF : Hid (∀ y, Below w2.heap.size w2 y → (y.cell? ⟨w.heap.size, 0, none⟩ = some (.slice a1 ls.length c1) ∧ y.cell? ⟨w.heap.size, 1, none⟩ = some (.slice a2 ks.length c2)) ∧ (y.cell? ⟨w.heap.size + 1, 0, none⟩ = some (.int .i64 kind) ∧ y.cell? ⟨w.heap.size + 1, 1, none⟩ = some (.string name) ∧ y.cell? ⟨w.heap.size + 1, 2, none⟩ = some (.string sum) ∧ y.cell? ⟨w.heap.size + 1, 3, none⟩ = some (.slice a3 cs.length c3))) := fun y hy => ⟨⟨block_cell (carry kA2.out hy) 0, block_cell (carry kA2.out hy) 1⟩, kept4s kB2.out hy⟩
  go_cut [6] from 5 to 28 (fun s y => ∃ g y1 y2 y3 z1 z2 z3, s = .pointer (some ⟨g, 0, none⟩) ∧ y.heap[g]? = some (.cells #[.slice y1 y2 y3, .slice z1 z2 z3, .int .i64 c] 33 (0, 0)) ∧ OLs w2.heap.size y (.slice y1 y2 y3) ll ∧ OT w2.heap.size y (.slice z1 z2 z3) kk ∧ w2.heap.size ≤ g ∧ Below w2.heap.size w2 y)
  case first =>
    have hb0 : Below w2.heap.size w2 w2.drew := (Below.refl _ _).drew
    refine wp_region_held_drew (S := (fun y => (y.cell? ⟨w.heap.size, 0, none⟩ = some (.slice a1 ls.length c1) ∧ y.cell? ⟨w.heap.size, 1, none⟩ = some (.slice a2 ks.length c2)) ∧ (y.cell? ⟨w.heap.size + 1, 0, none⟩ = some (.int .i64 kind) ∧ y.cell? ⟨w.heap.size + 1, 1, none⟩ = some (.string name) ∧ y.cell? ⟨w.heap.size + 1, 2, none⟩ = some (.string sum) ∧ y.cell? ⟨w.heap.size + 1, 3, none⟩ = some (.slice a3 cs.length c3)))) (by kernel_rfl) (KF.out _ hb0) (fun hHeld => ?_)
    generalize w2.drew = V0 at *
    refine TK.take_at 0 (some 24) (v := ?va0) rfl rfl (by kernel_rfl) (by kernel_rfl) (by kernel_rfl) (fun _ _ _ h => h) (Or.inl ⟨rfl, ?ha0⟩) hHeld ?ra0
    case ha0 => intro wq hSw; (try dsimp only at hSw); go_simp; all_goals (with_reducible rfl)
    try simp only [Act.put, List.setIfInBounds_toArray, List.set_cons_zero, List.set_cons_succ]
    refine TK.take_at 2 (some 26) (v := ?va2) rfl rfl (by kernel_rfl) (by kernel_rfl) (by kernel_rfl) (fun _ _ _ h => h) (Or.inl ⟨rfl, ?ha2⟩) hHeld ?ra2
    case ha2 => intro wq hSw; (try dsimp only at hSw); go_simp; all_goals (with_reducible rfl)
    try simp only [Act.put, List.setIfInBounds_toArray, List.set_cons_zero, List.set_cons_succ]
    refine wpAnyH_ready (rs := [1, 5]) (by kernel_rfl) (by simp) ?_
    refine AllReadyH.cons rfl (fun K hK => ?_) (AllReadyH.cons rfl (fun K hK => ?_) AllReadyH.nil)
    · go_simp
      (go_at_call 26; refine (HTA2.out _ (bel2 b2.out hb0)).mono ?_; rintro e x1 ⟨ul, uk, rfl, hA, hB, hq⟩; have hA := OLs.lrow hA HZM.out.1; have hB := OStrs.strs hB; (try have k6 := carry k6 hq); have hb0 := bel2 hb0 hq; clear hq)
      try (go_wp2_with fail)
      refine hK.out _ _ ?_ (fun hHeld => ?_)
      · exact KF.out _ hb0
      clear hK K
      try simp only [Act.put, List.setIfInBounds_toArray, List.set_cons_zero, List.set_cons_succ]
      refine wpAnyH_ready (rs := [3, 5]) (by kernel_rfl) (by simp) ?_
      refine AllReadyH.cons rfl (fun K hK => ?_) (AllReadyH.cons rfl (fun K hK => ?_) AllReadyH.nil)
      · go_simp
        (go_at_call 29; refine (HTX2.out _ (bel2 b2.out hb0)).mono ?_; rintro e x2 ⟨vd, rfl, hC, hq⟩; have hC := OIRow.irow hC; have hA := LRow.below hA hq; have hB := SRow.below hB hq; (try have k6 := carry k6 hq); have hb0 := bel2 hb0 hq; clear hq)
        try (go_wp2_with fail)
        refine hK.out _ _ ?_ (fun hHeld => ?_)
        · exact KF.out _ hb0
        clear hK K
        try simp only [Act.put, List.setIfInBounds_toArray, List.set_cons_zero, List.set_cons_succ]
        refine wpAnyH_ready (rs := [4, 5]) (by kernel_rfl) (by simp) ?_
        refine AllReadyH.cons rfl (fun K hK => ?_) (AllReadyH.cons rfl (fun K hK => ?_) AllReadyH.nil)
        · go_simp
          (go_at_call 9; refine (HS.out _ _ _ _ hA hB hC).mono ?_; rintro e x3 ⟨tl, tk, rfl, hD, hE, hq⟩; have hD := OLs.mono hD hb0.size; have hE : OT w2.heap.size x3 tk kk := NU.own_mono hE hb0.size; (try have k6 := carry k6 hq); have hb0 := bel2 hb0 hq; clear hq hA hB hC; obtain ⟨y1, y2, y3, rfl⟩ := IJ.agg_form hD; obtain ⟨z1, z2, z3, rfl⟩ := IJ.ot_form hE)
          try (go_wp2_with fail)
          refine hK.out _ _ ?_ (fun hHeld => ?_)
          · exact KF.out _ hb0
          clear hK K
          try simp only [Act.put, List.setIfInBounds_toArray, List.set_cons_zero, List.set_cons_succ]
          refine wpAnyH_ready (rs := [5]) (by kernel_rfl) (by simp) ?_
          refine AllReadyH.cons rfl (fun K hK => ?_) AllReadyH.nil
          go_simp
          try (go_wp2_with fail)
          have hq := albel x3 (.cells #[.slice none 0 0, .slice none 0 0, .int .i64 0] 33)
          have k6 := heap_alloc_new x3 (.cells #[.slice none 0 0, .slice none 0 0, .int .i64 0] 33)
          have hg6 : w2.heap.size ≤ x3.heap.size := hb0.size
          (try have hA := LRow.below hA hq); (try have hB := SRow.below hB hq); (try have hC := IRow.below hC hq); (try have hD := OLs.below hD hq); (try have hE := OT.below hE hq); have hb0 := bel2 hb0 hq
          clear hq
          generalize x3.alloc (.cells #[.slice none 0 0, .slice none 0 0, .int .i64 0] 33) = Y6 at *
          generalize x3.heap.size = g6 at *
          refine hK.out _ _ ?_ (fun hHeld => ?_)
          · exact KF.out _ hb0
          clear hK K
          try simp only [Act.put, List.setIfInBounds_toArray, List.set_cons_zero, List.set_cons_succ]
          obtain ⟨v0, v1, v2, vf⟩ := blk3a k6
          refine wpAnyH_ready (rs := [6]) (by kernel_rfl) (by simp) ?_
          refine AllReadyH.cons rfl (fun K hK => ?_) AllReadyH.nil
          go_simp
          try (go_wp2_with fail)
          refine hK.out _ _ ?_ (fun hHeld => ?_)
          · exact KF.out _ (((hb0.setCell (p := ⟨g6, 0, none⟩) hg6 _).setCell (p := ⟨g6, 1, none⟩) hg6 _).setCell (p := ⟨g6, 2, none⟩) hg6 _)
          clear hK K
          try simp only [Act.put, List.setIfInBounds_toArray, List.set_cons_zero, List.set_cons_succ]
          refine wpAnyH_done (by kernel_rfl) ?_ _
          go_wp2_with fail
          go_meet
          case rel =>
            have k7 := AB.heap_set (i := 0) (v := .slice y1 y2 y3) k6 (by show 0 < 3; omega)
            have k8 := AB.heap_set (i := 1) (v := .slice z1 z2 z3) k7 (by show 1 < 3; omega)
            have k9 := AB.heap_set (i := 2) (v := .int .i64 c) k8 (by show 2 < 3; omega)
            exact ⟨g6, _, _, _, _, _, _, rfl, k9, ols_set (ols_set (ols_set hD k6 (by decide)) k7 (by decide)) k8 (by decide), row_set (row_set (row_set hE k6 (by decide)) k7 (by decide)) k8 (by decide), hg6, ((hb0.setCell (p := ⟨g6, 0, none⟩) hg6 _).setCell (p := ⟨g6, 1, none⟩) hg6 _).setCell (p := ⟨g6, 2, none⟩) hg6 _⟩
        · go_simp
          try (go_wp2_with fail)
          have hq := albel x2 (.cells #[.slice none 0 0, .slice none 0 0, .int .i64 0] 33)
          have k6 := heap_alloc_new x2 (.cells #[.slice none 0 0, .slice none 0 0, .int .i64 0] 33)
          have hg6 : w2.heap.size ≤ x2.heap.size := hb0.size
          (try have hA := LRow.below hA hq); (try have hB := SRow.below hB hq); (try have hC := IRow.below hC hq); (try have hD := OLs.below hD hq); (try have hE := OT.below hE hq); have hb0 := bel2 hb0 hq
          clear hq
          generalize x2.alloc (.cells #[.slice none 0 0, .slice none 0 0, .int .i64 0] 33) = Y6 at *
          generalize x2.heap.size = g6 at *
          refine hK.out _ _ ?_ (fun hHeld => ?_)
          · exact KF.out _ hb0
          clear hK K
          try simp only [Act.put, List.setIfInBounds_toArray, List.set_cons_zero, List.set_cons_succ]
          refine wpAnyH_ready (rs := [4]) (by kernel_rfl) (by simp) ?_
          refine AllReadyH.cons rfl (fun K hK => ?_) AllReadyH.nil
          go_simp
          (go_at_call 9; refine (HS.out _ _ _ _ hA hB hC).mono ?_; rintro e x3 ⟨tl, tk, rfl, hD, hE, hq⟩; have hD := OLs.mono hD hb0.size; have hE : OT w2.heap.size x3 tk kk := NU.own_mono hE hb0.size; (try have k6 := carry k6 hq); have hb0 := bel2 hb0 hq; clear hq hA hB hC; obtain ⟨y1, y2, y3, rfl⟩ := IJ.agg_form hD; obtain ⟨z1, z2, z3, rfl⟩ := IJ.ot_form hE)
          try (go_wp2_with fail)
          refine hK.out _ _ ?_ (fun hHeld => ?_)
          · exact KF.out _ hb0
          clear hK K
          try simp only [Act.put, List.setIfInBounds_toArray, List.set_cons_zero, List.set_cons_succ]
          obtain ⟨v0, v1, v2, vf⟩ := blk3a k6
          refine wpAnyH_ready (rs := [6]) (by kernel_rfl) (by simp) ?_
          refine AllReadyH.cons rfl (fun K hK => ?_) AllReadyH.nil
          go_simp
          try (go_wp2_with fail)
          refine hK.out _ _ ?_ (fun hHeld => ?_)
          · exact KF.out _ (((hb0.setCell (p := ⟨g6, 0, none⟩) hg6 _).setCell (p := ⟨g6, 1, none⟩) hg6 _).setCell (p := ⟨g6, 2, none⟩) hg6 _)
          clear hK K
          try simp only [Act.put, List.setIfInBounds_toArray, List.set_cons_zero, List.set_cons_succ]
          refine wpAnyH_done (by kernel_rfl) ?_ _
          go_wp2_with fail
          go_meet
          case rel =>
            have k7 := AB.heap_set (i := 0) (v := .slice y1 y2 y3) k6 (by show 0 < 3; omega)
            have k8 := AB.heap_set (i := 1) (v := .slice z1 z2 z3) k7 (by show 1 < 3; omega)
            have k9 := AB.heap_set (i := 2) (v := .int .i64 c) k8 (by show 2 < 3; omega)
            exact ⟨g6, _, _, _, _, _, _, rfl, k9, ols_set (ols_set (ols_set hD k6 (by decide)) k7 (by decide)) k8 (by decide), row_set (row_set (row_set hE k6 (by decide)) k7 (by decide)) k8 (by decide), hg6, ((hb0.setCell (p := ⟨g6, 0, none⟩) hg6 _).setCell (p := ⟨g6, 1, none⟩) hg6 _).setCell (p := ⟨g6, 2, none⟩) hg6 _⟩
      · go_simp
        try (go_wp2_with fail)
        have hq := albel x1 (.cells #[.slice none 0 0, .slice none 0 0, .int .i64 0] 33)
        have k6 := heap_alloc_new x1 (.cells #[.slice none 0 0, .slice none 0 0, .int .i64 0] 33)
        have hg6 : w2.heap.size ≤ x1.heap.size := hb0.size
        (try have hA := LRow.below hA hq); (try have hB := SRow.below hB hq); (try have hC := IRow.below hC hq); (try have hD := OLs.below hD hq); (try have hE := OT.below hE hq); have hb0 := bel2 hb0 hq
        clear hq
        generalize x1.alloc (.cells #[.slice none 0 0, .slice none 0 0, .int .i64 0] 33) = Y6 at *
        generalize x1.heap.size = g6 at *
        refine hK.out _ _ ?_ (fun hHeld => ?_)
        · exact KF.out _ hb0
        clear hK K
        try simp only [Act.put, List.setIfInBounds_toArray, List.set_cons_zero, List.set_cons_succ]
        refine wpAnyH_ready (rs := [3]) (by kernel_rfl) (by simp) ?_
        refine AllReadyH.cons rfl (fun K hK => ?_) AllReadyH.nil
        go_simp
        (go_at_call 29; refine (HTX2.out _ (bel2 b2.out hb0)).mono ?_; rintro e x2 ⟨vd, rfl, hC, hq⟩; have hC := OIRow.irow hC; have hA := LRow.below hA hq; have hB := SRow.below hB hq; (try have k6 := carry k6 hq); have hb0 := bel2 hb0 hq; clear hq)
        try (go_wp2_with fail)
        refine hK.out _ _ ?_ (fun hHeld => ?_)
        · exact KF.out _ hb0
        clear hK K
        try simp only [Act.put, List.setIfInBounds_toArray, List.set_cons_zero, List.set_cons_succ]
        refine wpAnyH_ready (rs := [4]) (by kernel_rfl) (by simp) ?_
        refine AllReadyH.cons rfl (fun K hK => ?_) AllReadyH.nil
        go_simp
        (go_at_call 9; refine (HS.out _ _ _ _ hA hB hC).mono ?_; rintro e x3 ⟨tl, tk, rfl, hD, hE, hq⟩; have hD := OLs.mono hD hb0.size; have hE : OT w2.heap.size x3 tk kk := NU.own_mono hE hb0.size; (try have k6 := carry k6 hq); have hb0 := bel2 hb0 hq; clear hq hA hB hC; obtain ⟨y1, y2, y3, rfl⟩ := IJ.agg_form hD; obtain ⟨z1, z2, z3, rfl⟩ := IJ.ot_form hE)
        try (go_wp2_with fail)
        refine hK.out _ _ ?_ (fun hHeld => ?_)
        · exact KF.out _ hb0
        clear hK K
        try simp only [Act.put, List.setIfInBounds_toArray, List.set_cons_zero, List.set_cons_succ]
        obtain ⟨v0, v1, v2, vf⟩ := blk3a k6
        refine wpAnyH_ready (rs := [6]) (by kernel_rfl) (by simp) ?_
        refine AllReadyH.cons rfl (fun K hK => ?_) AllReadyH.nil
        go_simp
        try (go_wp2_with fail)
        refine hK.out _ _ ?_ (fun hHeld => ?_)
        · exact KF.out _ (((hb0.setCell (p := ⟨g6, 0, none⟩) hg6 _).setCell (p := ⟨g6, 1, none⟩) hg6 _).setCell (p := ⟨g6, 2, none⟩) hg6 _)
        clear hK K
        try simp only [Act.put, List.setIfInBounds_toArray, List.set_cons_zero, List.set_cons_succ]
        refine wpAnyH_done (by kernel_rfl) ?_ _
        go_wp2_with fail
        go_meet
        case rel =>
          have k7 := AB.heap_set (i := 0) (v := .slice y1 y2 y3) k6 (by show 0 < 3; omega)
          have k8 := AB.heap_set (i := 1) (v := .slice z1 z2 z3) k7 (by show 1 < 3; omega)
          have k9 := AB.heap_set (i := 2) (v := .int .i64 c) k8 (by show 2 < 3; omega)
          exact ⟨g6, _, _, _, _, _, _, rfl, k9, ols_set (ols_set (ols_set hD k6 (by decide)) k7 (by decide)) k8 (by decide), row_set (row_set (row_set hE k6 (by decide)) k7 (by decide)) k8 (by decide), hg6, ((hb0.setCell (p := ⟨g6, 0, none⟩) hg6 _).setCell (p := ⟨g6, 1, none⟩) hg6 _).setCell (p := ⟨g6, 2, none⟩) hg6 _⟩
    · go_simp
      try (go_wp2_with fail)
      have hq := albel V0 (.cells #[.slice none 0 0, .slice none 0 0, .int .i64 0] 33)
      have k6 := heap_alloc_new V0 (.cells #[.slice none 0 0, .slice none 0 0, .int .i64 0] 33)
      have hg6 : w2.heap.size ≤ V0.heap.size := hb0.size
      (try have hA := LRow.below hA hq); (try have hB := SRow.below hB hq); (try have hC := IRow.below hC hq); (try have hD := OLs.below hD hq); (try have hE := OT.below hE hq); have hb0 := bel2 hb0 hq
      clear hq
      generalize V0.alloc (.cells #[.slice none 0 0, .slice none 0 0, .int .i64 0] 33) = Y6 at *
      generalize V0.heap.size = g6 at *
      refine hK.out _ _ ?_ (fun hHeld => ?_)
      · exact KF.out _ hb0
      clear hK K
      try simp only [Act.put, List.setIfInBounds_toArray, List.set_cons_zero, List.set_cons_succ]
      refine wpAnyH_ready (rs := [1]) (by kernel_rfl) (by simp) ?_
      refine AllReadyH.cons rfl (fun K hK => ?_) AllReadyH.nil
      go_simp
      (go_at_call 26; refine (HTA2.out _ (bel2 b2.out hb0)).mono ?_; rintro e x1 ⟨ul, uk, rfl, hA, hB, hq⟩; have hA := OLs.lrow hA HZM.out.1; have hB := OStrs.strs hB; (try have k6 := carry k6 hq); have hb0 := bel2 hb0 hq; clear hq)
      try (go_wp2_with fail)
      refine hK.out _ _ ?_ (fun hHeld => ?_)
      · exact KF.out _ hb0
      clear hK K
      try simp only [Act.put, List.setIfInBounds_toArray, List.set_cons_zero, List.set_cons_succ]
      refine wpAnyH_ready (rs := [3]) (by kernel_rfl) (by simp) ?_
      refine AllReadyH.cons rfl (fun K hK => ?_) AllReadyH.nil
      go_simp
      (go_at_call 29; refine (HTX2.out _ (bel2 b2.out hb0)).mono ?_; rintro e x2 ⟨vd, rfl, hC, hq⟩; have hC := OIRow.irow hC; have hA := LRow.below hA hq; have hB := SRow.below hB hq; (try have k6 := carry k6 hq); have hb0 := bel2 hb0 hq; clear hq)
      try (go_wp2_with fail)
      refine hK.out _ _ ?_ (fun hHeld => ?_)
      · exact KF.out _ hb0
      clear hK K
      try simp only [Act.put, List.setIfInBounds_toArray, List.set_cons_zero, List.set_cons_succ]
      refine wpAnyH_ready (rs := [4]) (by kernel_rfl) (by simp) ?_
      refine AllReadyH.cons rfl (fun K hK => ?_) AllReadyH.nil
      go_simp
      (go_at_call 9; refine (HS.out _ _ _ _ hA hB hC).mono ?_; rintro e x3 ⟨tl, tk, rfl, hD, hE, hq⟩; have hD := OLs.mono hD hb0.size; have hE : OT w2.heap.size x3 tk kk := NU.own_mono hE hb0.size; (try have k6 := carry k6 hq); have hb0 := bel2 hb0 hq; clear hq hA hB hC; obtain ⟨y1, y2, y3, rfl⟩ := IJ.agg_form hD; obtain ⟨z1, z2, z3, rfl⟩ := IJ.ot_form hE)
      try (go_wp2_with fail)
      refine hK.out _ _ ?_ (fun hHeld => ?_)
      · exact KF.out _ hb0
      clear hK K
      try simp only [Act.put, List.setIfInBounds_toArray, List.set_cons_zero, List.set_cons_succ]
      obtain ⟨v0, v1, v2, vf⟩ := blk3a k6
      refine wpAnyH_ready (rs := [6]) (by kernel_rfl) (by simp) ?_
      refine AllReadyH.cons rfl (fun K hK => ?_) AllReadyH.nil
      go_simp
      try (go_wp2_with fail)
      refine hK.out _ _ ?_ (fun hHeld => ?_)
      · exact KF.out _ (((hb0.setCell (p := ⟨g6, 0, none⟩) hg6 _).setCell (p := ⟨g6, 1, none⟩) hg6 _).setCell (p := ⟨g6, 2, none⟩) hg6 _)
      clear hK K
      try simp only [Act.put, List.setIfInBounds_toArray, List.set_cons_zero, List.set_cons_succ]
      refine wpAnyH_done (by kernel_rfl) ?_ _
      go_wp2_with fail
      go_meet
      case rel =>
        have k7 := AB.heap_set (i := 0) (v := .slice y1 y2 y3) k6 (by show 0 < 3; omega)
        have k8 := AB.heap_set (i := 1) (v := .slice z1 z2 z3) k7 (by show 1 < 3; omega)
        have k9 := AB.heap_set (i := 2) (v := .int .i64 c) k8 (by show 2 < 3; omega)
        exact ⟨g6, _, _, _, _, _, _, rfl, k9, ols_set (ols_set (ols_set hD k6 (by decide)) k7 (by decide)) k8 (by decide), row_set (row_set (row_set hE k6 (by decide)) k7 (by decide)) k8 (by decide), hg6, ((hb0.setCell (p := ⟨g6, 0, none⟩) hg6 _).setCell (p := ⟨g6, 1, none⟩) hg6 _).setCell (p := ⟨g6, 2, none⟩) hg6 _⟩
  case rest =>
    obtain ⟨g6, y1, y2, y3, z1, z2, z3, rfl, k6, hD, hE, hg6, hb3⟩ := hcut
    have b3 : Hid (Below w.heap.size w wc) := bel2 b2.out hb3
    have kA3 : Hid _ := carry kA2.out hb3
    have kB3 : Hid _ := carry kB2.out hb3
    have k63 : Hid _ := k6
    have lW := hD.lrow HZM.out.2
    have sW := OStrs.strs hE
    have LW : Hid _ := lW
    have SW : Hid _ := sW
    clear hb3 KF HS b2 kA2 kB2 k6 hD hE lW sW hg6
    generalize wc = w3 at *
    have FX : Hid (∀ y, Below w3.heap.size w3 y → y.heap[w.heap.size]? = some (.cells #[.slice a1 ls.length c1, .slice a2 ks.length c2] 48 (0, 0)) ∧ y.heap[w.heap.size + 1]? = some (.cells #[.int .i64 kind, .string name, .string sum, .slice a3 cs.length c3] 52 (0, 0)) ∧ y.heap[g6]? = some (.cells #[.slice y1 y2 y3, .slice z1 z2 z3, .int .i64 c] 33 (0, 0)) ∧ LRow y (.slice y1 y2 y3) ll ∧ SRow y (.slice z1 z2 z3) kk ∧ Below w.heap.size w y) :=
      fun y hy => ⟨carry kA3.out hy, carry kB3.out hy, carry k63.out hy, LRow.below LW.out hy, SRow.below SW.out hy, bel2 b3.out hy⟩
    obtain ⟨q0, q1, qf⟩ := blk2a kA3.out
    go_wp2_with fail
    refine (HTA2.out _ b3.out).mono ?_
    rintro e w4 ⟨ul, uk, rfl, hl4, hs4, hb4⟩
    obtain ⟨vd, hv4⟩ := OLv.of hl4
    obtain ⟨a5, c5, rfl⟩ := slice_own hv4.row
    obtain ⟨a6, c6, rfl⟩ := slice_own hs4
    have al4 := albel w4 (.cells #[.slice a5 ls.length c5, .slice a6 ks.length c6] 26)
    have kx : Hid _ := heap_alloc_new w4 (.cells #[.slice a5 ls.length c5, .slice a6 ks.length c6] 26)
    have NX : Hid (∀ g, logs (.slice a5 ls.length c5) (.slice a6 ks.length c6) ls.length vd g → w3.heap.size ≤ g ∧ g < w4.heap.size) := fun g hg => by
      rcases hg with hg | hg
      · exact hv4.lt g hg
      · exact hs4.lt g hg
    have V4 : Hid _ := hv4.below al4
    have S4 : Hid _ := OT.below hs4 al4
    have b4 : Hid _ := bel2 hb4 al4
    have z4 : Hid _ := asz w4 (.cells #[.slice a5 ls.length c5, .slice a6 ks.length c6] 26)
    have h34 : w3.heap.size ≤ w4.heap.size := hb4.size
    have kB4 := (FX.out _ b4.out).2.1
    obtain ⟨p0, p1, p2, p3, pf⟩ := blk4f kB4
    clear hl4 hs4 hb4 hv4 al4 q0 q1 qf kB4
    go_wp2_with fail
    generalize w4.alloc (.cells #[.slice a5 ls.length c5, .slice a6 ks.length c6] 26) = W4 at *
    generalize w4.heap.size = g4 at *
    refine (HTX2.out _ (bel2 b3.out b4.out)).mono ?_
    rintro e w5 ⟨vx5, rfl, ho5, hb5⟩
    obtain ⟨a7, c7, rfl⟩ := slice_own ho5
    have al5 := albel w5 (.cells #[.int .i64 kind, .string name, .string sum, .slice a7 cs.length c7] 29)
    have ky : Hid _ := heap_alloc_new w5 (.cells #[.int .i64 kind, .string name, .string sum, .slice a7 cs.length c7] 29)
    have NV : Hid (∀ g, mine (.slice a7 cs.length c7) g → g4 < g ∧ g < w5.heap.size) := fun g hg => by
      have h1 := ho5.lt g hg
      have h2 := z4.out
      omega
    have z5 : Hid _ := asz w5 (.cells #[.int .i64 kind, .string name, .string sum, .slice a7 cs.length c7] 29)
    have O5 : Hid _ := OIRow.below (NU.own_mono ho5 b4.out.size : OIRow w3.heap.size w5 _ _) al5
    have V5 : Hid _ := (V4.out.below hb5).below al5
    have S5 : Hid _ := OT.below (OT.below S4.out hb5) al5
    have b5 : Hid (Below w3.heap.size w3 _) := bel2 (bel2 b4.out hb5) al5
    have kx5 : Hid _ := carry (carry kx.out hb5) al5
    have h48 : g4 < w5.heap.size := by have h1 := hb5.size; have h2 := z4.out; omega
    clear ho5 hb5 al5 p0 p1 p2 p3 pf V4 S4 b4 kx
    obtain ⟨p0, p1, pf⟩ := blk2a kx5.out
    obtain ⟨q0, q1, q2, q3, qf⟩ := blk4f ky.out
    go_upto_region 11 with fail
    generalize w5.alloc (.cells #[.int .i64 kind, .string name, .string sum, .slice a7 cs.length c7] 29) = W5 at *
    generalize w5.heap.size = g8 at *
    go_wp2_with fail
    refine (HI.out _ (bel2 b3.out b5.out) _ _ _ (V5.out.ols.lrow HZM.out.1) (OStrs.strs S5.out) (OIRow.irow O5.out)).mono ?_
    rintro e w6 ⟨tl, tk, rfl, hl6, hs6, hb6⟩
    obtain ⟨ve, hv6⟩ := OLv.of hl6
    obtain ⟨a8, c8, rfl⟩ := slice_own hv6.row
    obtain ⟨a9, c9, rfl⟩ := slice_own hs6
    have al6 := albel w6 (.cells #[.slice a8 ll.length c8, .slice a9 kk.length c9, .int .i64 c] 33)
    have NG : Hid (∀ g, logs (.slice a8 ll.length c8) (.slice a9 kk.length c9) ll.length ve g → g8 < g ∧ g < w6.heap.size) := fun g hg => by
      have h2 := z5.out
      rcases hg with hg | hg
      · have := hv6.lt g hg; omega
      · have := hs6.lt g hg; omega
    have h89 : g8 < w6.heap.size := by have h1 := hb6.size; have h2 := z5.out; omega
    have P6 : Hid (Pk w3 W5.heap.size g4 g8 w6.heap.size (.slice a5 ls.length c5) (.slice a6 ks.length c6) ls ks vd (.slice a7 cs.length c7) cs (.slice a8 ll.length c8) (.slice a9 kk.length c9) ll kk ve
        (.cells #[.slice a5 ls.length c5, .slice a6 ks.length c6] 26 (0, 0)) (.cells #[.int .i64 kind, .string name, .string sum, .slice a7 cs.length c7] 29 (0, 0)) (.cells #[.slice a8 ll.length c8, .slice a9 kk.length c9, .int .i64 c] 33 (0, 0))
        (w6.alloc (.cells #[.slice a8 ll.length c8, .slice a9 kk.length c9, .int .i64 c] 33))) :=
      ⟨(V5.out.below hb6).below al6, OT.below (OT.below S5.out hb6) al6, OIRow.below (OIRow.below O5.out hb6) al6, hv6.below al6, OT.below hs6 al6, carry (carry kx5.out hb6) al6, carry (carry ky.out hb6) al6, heap_alloc_new _ _, bel2 (bel2 b5.out hb6) al6⟩
    clear hl6 hs6 hb6 hv6 al6 p0 p1 pf q0 q1 q2 q3 qf V5 S5 O5 b5 kx5 ky z4 z5
    obtain ⟨p0, p1, p2, pf⟩ := blk3a P6.out.g0
    obtain ⟨-, -, k6a, LA, SA, -⟩ := FX.out _ P6.out.b
    obtain ⟨q0, q1, q2, qf⟩ := blk3a k6a
    have LB := P6.out.t.ols.lrow HZM.out.2
    have SB := OStrs.strs P6.out.k
    have HEW : Hid _ := HE.out _ _ _ _ _ LB SB LA SA
    clear LA SA LB SB k6a
    go_upto_region 12 with fail
    generalize w6.alloc (.cells #[.slice a8 ll.length c8, .slice a9 kk.length c9, .int .i64 c] 33) = W6 at *
    generalize w6.heap.size = g9 at *
    go_wp2_with fail
    refine Calls.mono HEW.out ?_
    rintro e w7 ⟨rfl, hb7⟩
    have P7 : Hid _ := P6.out.below hb7
    clear hb7 HEW p0 p1 p2 pf q0 q1 q2 qf P6
    go_upto_region 14 with fail
    have KF : Hid (∀ y, Below w7.heap.size w7 y → (y.cell? ⟨w.heap.size, 0, none⟩ = some (.slice a1 ls.length c1) ∧ y.cell? ⟨w.heap.size, 1, none⟩ = some (.slice a2 ks.length c2)) ∧ (y.cell? ⟨g4, 0, none⟩ = some (.slice a5 ls.length c5) ∧ y.cell? ⟨g4, 1, none⟩ = some (.slice a6 ks.length c6))) := fun y hy => ⟨⟨block_cell (FX.out y (bel2 P7.out.b hy)).1 0, block_cell (FX.out y (bel2 P7.out.b hy)).1 1⟩, block_cell (P7.out.below hy).x0 0, block_cell (P7.out.below hy).x0 1⟩
    go_cut [44] from 40 to 44 (fun s y => s = .bool false ∧ Below w7.heap.size w7 y)
    case first =>
      have hb0 : Below w7.heap.size w7 w7.drew := (Below.refl _ _).drew
      refine wp_region_held_drew (S := (fun y => (y.cell? ⟨w.heap.size, 0, none⟩ = some (.slice a1 ls.length c1) ∧ y.cell? ⟨w.heap.size, 1, none⟩ = some (.slice a2 ks.length c2)) ∧ (y.cell? ⟨g4, 0, none⟩ = some (.slice a5 ls.length c5) ∧ y.cell? ⟨g4, 1, none⟩ = some (.slice a6 ks.length c6)))) (by kernel_rfl) (KF.out _ hb0) (fun hHeld => ?_)
      refine TK.take_at 0 (some 40) (v := ?vp0) rfl rfl (by kernel_rfl) (by kernel_rfl) (by kernel_rfl) (fun _ _ _ h => h) (Or.inl ⟨rfl, ?hp0⟩) hHeld ?rp0
      case hp0 => intro wq hSw; (try dsimp only at hSw); go_simp; all_goals (with_reducible rfl)
      try simp only [Act.put, List.setIfInBounds_toArray, List.set_cons_zero, List.set_cons_succ]
      refine TK.take_at 1 (some 41) (v := ?vp1) rfl rfl (by kernel_rfl) (by kernel_rfl) (by kernel_rfl) (fun _ _ _ h => h) (Or.inl ⟨rfl, ?hp1⟩) hHeld ?rp1
      case hp1 => intro wq hSw; (try dsimp only at hSw); go_simp; all_goals (with_reducible rfl)
      try simp only [Act.put, List.setIfInBounds_toArray, List.set_cons_zero, List.set_cons_succ]
      refine wpAnyH_ready (rs := [2]) (by kernel_rfl) (by simp) ?_
      refine AllReadyH.cons rfl (fun K hK => ?_) AllReadyH.nil
      go_simp
      (go_at_call 26; refine (HTA2.out _ (bel2 (bel2 b3.out P7.out.b) hb0)).mono ?_; rintro e x1 ⟨ul, uk, rfl, hl1, hs1, hq1⟩; have hb1 := bel2 hb0 hq1; have hb0 := hb1)
      try (go_wp2_with fail)
      refine hK.out _ _ ?_ (fun hHeld => ?_)
      · exact KF.out _ hb0
      clear hK K
      try simp only [Act.put, List.setIfInBounds_toArray, List.set_cons_zero, List.set_cons_succ]
      refine wpAnyH_ready (rs := [3]) (by kernel_rfl) (by simp) ?_
      refine AllReadyH.cons rfl (fun K hK => ?_) AllReadyH.nil
      go_simp
      (go_at_call 27; refine (HEA.out _ _ _ _ _ ((P7.out.below hb1).v.ols.lrow HZM.out.1) (OStrs.strs (P7.out.below hb1).s) (OLs.lrow hl1 HZM.out.1) (OStrs.strs hs1)).mono ?_; rintro e x2 ⟨rfl, hq2⟩; have hb0 := bel2 hb1 hq2)
      try (go_wp2_with fail)
      refine hK.out _ _ ?_ (fun hHeld => ?_)
      · exact KF.out _ hb0
      clear hK K
      try simp only [Act.put, List.setIfInBounds_toArray, List.set_cons_zero, List.set_cons_succ]
      refine TK.take_at 4 (some 44) (v := ?vp4) rfl rfl (by kernel_rfl) (by kernel_rfl) (by kernel_rfl) (fun _ _ _ h => h) (Or.inl ⟨rfl, ?hp4⟩) hHeld ?rp4
      case hp4 => intro wq hSw; (try dsimp only at hSw); go_simp; all_goals (with_reducible rfl)
      try simp only [Act.put, List.setIfInBounds_toArray, List.set_cons_zero, List.set_cons_succ]
      refine wpAnyH_done (by kernel_rfl) ?_ _
      go_wp2_with fail
      go_meet
      case rel => exact ⟨rfl, hb0⟩
    case rest =>
      obtain ⟨rfl, hb8⟩ := hcut
      have P8 : Hid _ := P7.out.below hb8
      clear hb8 KF P7 HEA
      generalize wc = w8 at *
      go_upto_region 16 with fail
      have KF : Hid (∀ y, Below w8.heap.size w8 y → (y.cell? ⟨w.heap.size + 1, 0, none⟩ = some (.int .i64 kind) ∧ y.cell? ⟨w.heap.size + 1, 1, none⟩ = some (.string name) ∧ y.cell? ⟨w.heap.size + 1, 2, none⟩ = some (.string sum) ∧ y.cell? ⟨w.heap.size + 1, 3, none⟩ = some (.slice a3 cs.length c3)) ∧ (y.cell? ⟨g8, 0, none⟩ = some (.int .i64 kind) ∧ y.cell? ⟨g8, 1, none⟩ = some (.string name) ∧ y.cell? ⟨g8, 2, none⟩ = some (.string sum) ∧ y.cell? ⟨g8, 3, none⟩ = some (.slice a7 cs.length c7))) := fun y hy => ⟨kept4s (FX.out y (bel2 P8.out.b hy)).2.1 (Below.refl _ _), kept4s (P8.out.below hy).x1 (Below.refl _ _)⟩
      go_cut [49] from 45 to 49 (fun s y => s = .bool false ∧ Below w8.heap.size w8 y)
      case first =>
        have hb0 : Below w8.heap.size w8 w8.drew := (Below.refl _ _).drew
        refine wp_region_held_drew (S := (fun y => (y.cell? ⟨w.heap.size + 1, 0, none⟩ = some (.int .i64 kind) ∧ y.cell? ⟨w.heap.size + 1, 1, none⟩ = some (.string name) ∧ y.cell? ⟨w.heap.size + 1, 2, none⟩ = some (.string sum) ∧ y.cell? ⟨w.heap.size + 1, 3, none⟩ = some (.slice a3 cs.length c3)) ∧ (y.cell? ⟨g8, 0, none⟩ = some (.int .i64 kind) ∧ y.cell? ⟨g8, 1, none⟩ = some (.string name) ∧ y.cell? ⟨g8, 2, none⟩ = some (.string sum) ∧ y.cell? ⟨g8, 3, none⟩ = some (.slice a7 cs.length c7)))) (by kernel_rfl) (KF.out _ hb0) (fun hHeld => ?_)
        refine TK.take_at 0 (some 45) (v := ?vq0) rfl rfl (by kernel_rfl) (by kernel_rfl) (by kernel_rfl) (fun _ _ _ h => h) (Or.inl ⟨rfl, ?hq0⟩) hHeld ?rq0
        case hq0 => intro wq hSw; (try dsimp only at hSw); go_simp; all_goals (with_reducible rfl)
        try simp only [Act.put, List.setIfInBounds_toArray, List.set_cons_zero, List.set_cons_succ]
        refine TK.take_at 1 (some 46) (v := ?vq1) rfl rfl (by kernel_rfl) (by kernel_rfl) (by kernel_rfl) (fun _ _ _ h => h) (Or.inl ⟨rfl, ?hq1⟩) hHeld ?rq1
        case hq1 => intro wq hSw; (try dsimp only at hSw); go_simp; all_goals (with_reducible rfl)
        try simp only [Act.put, List.setIfInBounds_toArray, List.set_cons_zero, List.set_cons_succ]
        refine wpAnyH_ready (rs := [2]) (by kernel_rfl) (by simp) ?_
        refine AllReadyH.cons rfl (fun K hK => ?_) AllReadyH.nil
        go_simp
        (go_at_call 29; refine (HTX2.out _ (bel2 (bel2 b3.out P8.out.b) hb0)).mono ?_; rintro e x1 ⟨vx1, rfl, ho1, hq1⟩; have hb1 := bel2 hb0 hq1; have hb0 := hb1)
        try (go_wp2_with fail)
        refine hK.out _ _ ?_ (fun hHeld => ?_)
        · exact KF.out _ hb0
        clear hK K
        try simp only [Act.put, List.setIfInBounds_toArray, List.set_cons_zero, List.set_cons_succ]
        refine wpAnyH_ready (rs := [3]) (by kernel_rfl) (by simp) ?_
        refine AllReadyH.cons rfl (fun K hK => ?_) AllReadyH.nil
        go_simp
        (go_at_call 31; refine (HEX.out _ _ _ (OIRow.irow (P8.out.below hb1).o) (OIRow.irow ho1)).mono ?_; rintro e x2 ⟨rfl, hq2⟩; have hb0 := bel2 hb1 hq2)
        try (go_wp2_with fail)
        refine hK.out _ _ ?_ (fun hHeld => ?_)
        · exact KF.out _ hb0
        clear hK K
        try simp only [Act.put, List.setIfInBounds_toArray, List.set_cons_zero, List.set_cons_succ]
        refine TK.take_at 4 (some 49) (v := ?vq4) rfl rfl (by kernel_rfl) (by kernel_rfl) (by kernel_rfl) (fun _ _ _ h => h) (Or.inl ⟨rfl, ?hq4⟩) hHeld ?rq4
        case hq4 => intro wq hSw; (try dsimp only at hSw); go_simp; all_goals (with_reducible rfl)
        try simp only [Act.put, List.setIfInBounds_toArray, List.set_cons_zero, List.set_cons_succ]
        refine wpAnyH_done (by kernel_rfl) ?_ _
        go_wp2_with fail
        go_meet
        case rel => exact ⟨rfl, hb0⟩
      case rest =>
        obtain ⟨rfl, hb9⟩ := hcut
        have P9 : Hid _ := P8.out.below hb9
        clear hb9 KF P8 HEX
        generalize wc = w9 at *
        obtain ⟨e1, he1⟩ : ∃ e, endK ls ks 1 = e := ⟨_, rfl⟩
        obtain ⟨e2, he2⟩ : ∃ e, e1 + cs.length = e := ⟨_, rfl⟩
        obtain ⟨e3, he3⟩ : ∃ e, endK ll kk 1 = e := ⟨_, rfl⟩
        have hE1 : 0 < e1 ∧ e1 < 100000000000000000 := by
          have h1 := upS_le (l := ls) (k := 1) (by omega) HZA.out.1 HZA.out.2.1
          have h2 := upK_ge ls 1 ls.length
          have h3 := HZA.out.2.2
          unfold endK at he1
          omega
        have hN2 : ¬ (e2 : Int) < 0 := by omega
        have hN3 : ¬ (e3 : Int) < 0 := by omega
        have HMA : Hid (∀ y, OLv w3.heap.size y (.slice a5 ls.length c5) ls vd → OT w3.heap.size y (.slice a6 ks.length c6) ks → Calls Tryd.prog 32 #[.agg #[.slice a5 ls.length c5, .slice a6 ks.length c6], .int .i64 1] y fun e w' => e = .returned (.int .i64 (e1 : Nat)) ∧ Wrote (logs (.slice a5 ls.length c5) (.slice a6 ks.length c6) ls.length vd) y w') := fun y h1 h2 => by
          have := markAudit_any w3.heap.size 1 _ _ ls ks vd y h1 h2 (by omega) (by omega) HZA.out.1 HZA.out.2.1 HZA.out.2.2
          rw [he1] at this
          refine this.mono ?_
          rintro e w' ⟨q1, _, _, q2⟩
          exact ⟨q1, q2⟩
        have HML : Hid (∀ y, OIRow w3.heap.size y (.slice a7 cs.length c7) cs → Calls Tryd.prog 33 #[.agg #[.int .i64 kind, .string name, .string sum, .slice a7 cs.length c7], .int .i64 (e1 : Nat)] y fun e w' => e = .returned (.int .i64 (e2 : Nat)) ∧ Wrote (mine (.slice a7 cs.length c7)) y w') := fun y h1 => by
          have := markLine_any w3.heap.size e1 ⟨kind, name, sum, cs⟩ _ y h1 (by omega) (by omega) hcl
          dsimp only at this
          rw [he2] at this
          exact this
        have HMO : Hid (∀ y, OLv W5.heap.size y (.slice a8 ll.length c8) ll ve → OT W5.heap.size y (.slice a9 kk.length c9) kk → Calls Tryd.prog 34 #[.agg #[.slice a8 ll.length c8, .slice a9 kk.length c9, .int .i64 c], .int .i64 1] y fun e w' => e = .returned (.int .i64 (e3 : Nat)) ∧ OLv W5.heap.size w' (.slice a8 ll.length c8) (mkL ll 1) ve ∧ OT W5.heap.size w' (.slice a9 kk.length c9) (mkS (upK ll 1 ll.length) kk.length) ∧ Wrote (logs (.slice a8 ll.length c8) (.slice a9 kk.length c9) ll.length ve) y w') := fun y h1 h2 => by
          have := markOut_any W5.heap.size 1 _ _ c ll kk ve y h1 h2 (by omega) (by omega) HZL.out.1 HZL.out.2.1 HZL.out.2.2
          rw [he3] at this
          exact this
        have HHO : Hid (∀ y, LRow y (.slice a8 ll.length c8) (mkL ll 1) → SRow y (.slice a9 kk.length c9) (mkS (upK ll 1 ll.length) kk.length) → Calls Tryd.prog 35 #[.agg #[.slice a8 ll.length c8, .slice a9 kk.length c9, .int .i64 c], .int .i64 1] y fun e w' => e = .returned (.int .i64 (e3 : Nat)) ∧ Below y.heap.size y w') := fun y h1 h2 => by
          have := heldOut_any 1 _ _ c ll kk y h1 h2 (by omega) (by omega) HZL.out.1 HZL.out.2.1 HZL.out.2.2
          rw [he3] at this
          exact this
        clear he1 he2 he3
        obtain ⟨p0, p1, pf⟩ := blk2a P9.out.x0
        go_wp2_with fail
        refine (HMA.out _ P9.out.v P9.out.s).mono ?_
        rintro e w10 ⟨rfl, ht⟩
        have B10 : Hid (Below w3.heap.size w3 w10) := P9.out.b.trans (Wrote.below ht P9.out.b.size (fun g hg => (NX.out g hg).1))
        have O10 : Hid (OIRow w3.heap.size w10 (.slice a7 cs.length c7) cs) := own_wrote P9.out.o ht fun g hg hl => by
          have h1 := NX.out g hl
          have h2 := NV.out g hg
          omega
        have T10 : Hid _ := P9.out.t.wrote ht fun g hg hl => by
          have h1 := NX.out g hl
          have h2 := NG.out g (.inl hg)
          omega
        have K10 : Hid (OT W5.heap.size w10 (.slice a9 kk.length c9) kk) := own_wrote P9.out.k ht fun g hg hl => by
          have h1 := NX.out g hl
          have h2 := NG.out g (.inr hg)
          omega
        have x10 : Hid _ := (ht.block g8 (lt_some P9.out.x1) (fun hl => by have h1 := NX.out g8 hl; omega)).trans P9.out.x1
        have g10 : Hid _ := (ht.block g9 (lt_some P9.out.g0) (fun hl => by have h1 := NX.out g9 hl; omega)).trans P9.out.g0
        clear ht P9 HMA p0 p1 pf
        obtain ⟨q0, q1, q2, q3, qf⟩ := blk4f x10.out
        go_wp2_with fail
        refine (HML.out _ O10.out).mono ?_
        rintro e w11 ⟨rfl, ht⟩
        have B11 : Hid (Below w3.heap.size w3 w11) := B10.out.trans (Wrote.below ht B10.out.size (fun g hg => by have := NV.out g hg; omega))
        have T11 : Hid _ := T10.out.wrote ht fun g hg hl => by
          have h1 := NV.out g hl
          have h2 := NG.out g (.inl hg)
          omega
        have K11 : Hid (OT W5.heap.size w11 (.slice a9 kk.length c9) kk) := own_wrote K10.out ht fun g hg hl => by
          have h1 := NV.out g hl
          have h2 := NG.out g (.inr hg)
          omega
        have g11 : Hid _ := (ht.block g9 (lt_some g10.out) (fun hl => by have h1 := NV.out g9 hl; omega)).trans g10.out
        have HEW : Hid _ := HE.out w11 _ _ _ _ (T11.out.ols.lrow HZM.out.2) (OStrs.strs K11.out) (FX.out _ B11.out).2.2.2.1 (FX.out _ B11.out).2.2.2.2.1
        clear ht HML B10 O10 T10 K10 x10 g10 q0 q1 q2 q3 qf
        obtain ⟨p0, p1, p2, pf⟩ := blk3a g11.out
        obtain ⟨q0, q1, q2, qf⟩ := blk3a (FX.out _ B11.out).2.2.1
        go_wp2_with fail
        refine Calls.mono HEW.out ?_
        rintro e w12 ⟨rfl, hb⟩
        have B12 : Hid _ := bel2 B11.out hb
        have T12 : Hid _ := T11.out.below hb
        have K12 : Hid _ := OT.below K11.out hb
        have g12 : Hid _ := carry g11.out hb
        clear hb HEW B11 T11 K11 g11 p0 p1 p2 pf q0 q1 q2 qf
        obtain ⟨p0, p1, p2, pf⟩ := blk3a g12.out
        go_wp2_with fail
        refine (HMO.out _ T12.out K12.out).mono ?_
        rintro e w13 ⟨rfl, hv13, hk13, ht⟩
        have B13 : Hid (Below w3.heap.size w3 w13) := B12.out.trans (Wrote.below ht B12.out.size (fun g hg => by have := NG.out g hg; omega))
        have g13 : Hid _ := (ht.block g9 (lt_some g12.out) (fun hl => by have h1 := NG.out g9 hl; omega)).trans g12.out
        have L13 : Hid (LRow w13 (.slice a8 ll.length c8) (mkL ll 1)) := hv13.ols.lrow (by rw [mkL_length]; exact HZM.out.2)
        have S13 : Hid (SRow w13 (.slice a9 kk.length c9) (mkS (upK ll 1 ll.length) kk.length)) := OStrs.strs hk13
        clear hv13 hk13 ht HMO B12 T12 K12 g12 p0 p1 p2 pf
        obtain ⟨p0, p1, p2, pf⟩ := blk3a g13.out
        go_wp2_with fail
        refine (HHO.out _ L13.out S13.out).mono ?_
        rintro e w14 ⟨rfl, hb⟩
        have B14 : Hid _ := bel2 B13.out hb
        have L14 : Hid _ := LRow.below L13.out hb
        have S14 : Hid _ := SRow.below S13.out hb
        have g14 : Hid _ := carry g13.out hb
        clear hb B13 L13 S13 g13 p0 p1 p2 pf NX NV NG
        go_upto_region 31 with fail
        have b14 : Hid (Below w.heap.size w w14) := bel2 b3.out B14.out
        have KF : Hid (∀ y, Below w14.heap.size w14 y → (y.cell? ⟨w.heap.size, 0, none⟩ = some (.slice a1 ls.length c1) ∧ y.cell? ⟨w.heap.size, 1, none⟩ = some (.slice a2 ks.length c2)) ∧ (y.cell? ⟨w.heap.size + 1, 0, none⟩ = some (.int .i64 kind) ∧ y.cell? ⟨w.heap.size + 1, 1, none⟩ = some (.string name) ∧ y.cell? ⟨w.heap.size + 1, 2, none⟩ = some (.string sum) ∧ y.cell? ⟨w.heap.size + 1, 3, none⟩ = some (.slice a3 cs.length c3))) := fun y hy => ⟨⟨block_cell (FX.out y (bel2 B14.out hy)).1 0, block_cell (FX.out y (bel2 B14.out hy)).1 1⟩, kept4s (FX.out y (bel2 B14.out hy)).2.1 (Below.refl _ _)⟩
        go_cut [13] from 12 to 79 (fun s y => ∃ g r1 r2 r3 s1 s2 s3, s = .pointer (some ⟨g, 0, none⟩) ∧ y.heap[g]? = some (.cells #[.slice r1 r2 r3, .slice s1 s2 s3, .int .i64 c] 33 (0, 0)) ∧ OLs w14.heap.size y (.slice r1 r2 r3) ll ∧ OT w14.heap.size y (.slice s1 s2 s3) kk ∧ w14.heap.size ≤ g ∧ Below w14.heap.size w14 y)
        case first =>
          have hb0 : Below w14.heap.size w14 w14.drew := (Below.refl _ _).drew
          refine wp_region_held_drew (S := (fun y => (y.cell? ⟨w.heap.size, 0, none⟩ = some (.slice a1 ls.length c1) ∧ y.cell? ⟨w.heap.size, 1, none⟩ = some (.slice a2 ks.length c2)) ∧ (y.cell? ⟨w.heap.size + 1, 0, none⟩ = some (.int .i64 kind) ∧ y.cell? ⟨w.heap.size + 1, 1, none⟩ = some (.string name) ∧ y.cell? ⟨w.heap.size + 1, 2, none⟩ = some (.string sum) ∧ y.cell? ⟨w.heap.size + 1, 3, none⟩ = some (.slice a3 cs.length c3)))) (by kernel_rfl) (KF.out _ hb0) (fun hHeld => ?_)
          generalize w14.drew = V0 at *
          refine TK.take_at 0 (some 75) (v := ?vb0) rfl rfl (by kernel_rfl) (by kernel_rfl) (by kernel_rfl) (fun _ _ _ h => h) (Or.inl ⟨rfl, ?hb0⟩) hHeld ?rb0
          case hb0 => intro wq hSw; (try dsimp only at hSw); go_simp; all_goals (with_reducible rfl)
          try simp only [Act.put, List.setIfInBounds_toArray, List.set_cons_zero, List.set_cons_succ]
          refine TK.take_at 2 (some 77) (v := ?vb2) rfl rfl (by kernel_rfl) (by kernel_rfl) (by kernel_rfl) (fun _ _ _ h => h) (Or.inl ⟨rfl, ?hb2⟩) hHeld ?rb2
          case hb2 => intro wq hSw; (try dsimp only at hSw); go_simp; all_goals (with_reducible rfl)
          try simp only [Act.put, List.setIfInBounds_toArray, List.set_cons_zero, List.set_cons_succ]
          refine wpAnyH_ready (rs := [1, 5]) (by kernel_rfl) (by simp) ?_
          refine AllReadyH.cons rfl (fun K hK => ?_) (AllReadyH.cons rfl (fun K hK => ?_) AllReadyH.nil)
          · go_simp
            (go_at_call 26; refine (HTA2.out _ (bel2 b14.out hb0)).mono ?_; rintro e x1 ⟨ul, uk, rfl, hA, hB, hq⟩; have hA := OLs.lrow hA HZM.out.1; have hB := OStrs.strs hB; (try have k6 := carry k6 hq); have hb0 := bel2 hb0 hq; clear hq)
            try (go_wp2_with fail)
            refine hK.out _ _ ?_ (fun hHeld => ?_)
            · exact KF.out _ hb0
            clear hK K
            try simp only [Act.put, List.setIfInBounds_toArray, List.set_cons_zero, List.set_cons_succ]
            refine wpAnyH_ready (rs := [3, 5]) (by kernel_rfl) (by simp) ?_
            refine AllReadyH.cons rfl (fun K hK => ?_) (AllReadyH.cons rfl (fun K hK => ?_) AllReadyH.nil)
            · go_simp
              (go_at_call 29; refine (HTX2.out _ (bel2 b14.out hb0)).mono ?_; rintro e x2 ⟨vd, rfl, hC, hq⟩; have hC := OIRow.irow hC; have hA := LRow.below hA hq; have hB := SRow.below hB hq; (try have k6 := carry k6 hq); have hb0 := bel2 hb0 hq; clear hq)
              try (go_wp2_with fail)
              refine hK.out _ _ ?_ (fun hHeld => ?_)
              · exact KF.out _ hb0
              clear hK K
              try simp only [Act.put, List.setIfInBounds_toArray, List.set_cons_zero, List.set_cons_succ]
              refine wpAnyH_ready (rs := [4, 5]) (by kernel_rfl) (by simp) ?_
              refine AllReadyH.cons rfl (fun K hK => ?_) (AllReadyH.cons rfl (fun K hK => ?_) AllReadyH.nil)
              · go_simp
                (go_at_call 8; refine (HI.out _ (bel2 b14.out hb0) _ _ _ hA hB hC).mono ?_; rintro e x3 ⟨tl, tk, rfl, hD, hE, hq⟩; have hD := OLs.mono hD hb0.size; have hE : OT w14.heap.size x3 tk kk := NU.own_mono hE hb0.size; (try have k6 := carry k6 hq); have hb0 := bel2 hb0 hq; clear hq hA hB hC; obtain ⟨y1, y2, y3, rfl⟩ := IJ.agg_form hD; obtain ⟨z1, z2, z3, rfl⟩ := IJ.ot_form hE)
                try (go_wp2_with fail)
                refine hK.out _ _ ?_ (fun hHeld => ?_)
                · exact KF.out _ hb0
                clear hK K
                try simp only [Act.put, List.setIfInBounds_toArray, List.set_cons_zero, List.set_cons_succ]
                refine wpAnyH_ready (rs := [5]) (by kernel_rfl) (by simp) ?_
                refine AllReadyH.cons rfl (fun K hK => ?_) AllReadyH.nil
                go_simp
                try (go_wp2_with fail)
                have hq := albel x3 (.cells #[.slice none 0 0, .slice none 0 0, .int .i64 0] 33)
                have k6 := heap_alloc_new x3 (.cells #[.slice none 0 0, .slice none 0 0, .int .i64 0] 33)
                have hg6 : w14.heap.size ≤ x3.heap.size := hb0.size
                (try have hA := LRow.below hA hq); (try have hB := SRow.below hB hq); (try have hC := IRow.below hC hq); (try have hD := OLs.below hD hq); (try have hE := OT.below hE hq); have hb0 := bel2 hb0 hq
                clear hq
                generalize x3.alloc (.cells #[.slice none 0 0, .slice none 0 0, .int .i64 0] 33) = Y6 at *
                generalize x3.heap.size = g6 at *
                refine hK.out _ _ ?_ (fun hHeld => ?_)
                · exact KF.out _ hb0
                clear hK K
                try simp only [Act.put, List.setIfInBounds_toArray, List.set_cons_zero, List.set_cons_succ]
                obtain ⟨v0, v1, v2, vf⟩ := blk3a k6
                refine wpAnyH_ready (rs := [6]) (by kernel_rfl) (by simp) ?_
                refine AllReadyH.cons rfl (fun K hK => ?_) AllReadyH.nil
                go_simp
                try (go_wp2_with fail)
                refine hK.out _ _ ?_ (fun hHeld => ?_)
                · exact KF.out _ (((hb0.setCell (p := ⟨g6, 0, none⟩) hg6 _).setCell (p := ⟨g6, 1, none⟩) hg6 _).setCell (p := ⟨g6, 2, none⟩) hg6 _)
                clear hK K
                try simp only [Act.put, List.setIfInBounds_toArray, List.set_cons_zero, List.set_cons_succ]
                refine wpAnyH_done (by kernel_rfl) ?_ _
                go_wp2_with fail
                go_meet
                case rel =>
                  have k7 := AB.heap_set (i := 0) (v := .slice y1 y2 y3) k6 (by show 0 < 3; omega)
                  have k8 := AB.heap_set (i := 1) (v := .slice z1 z2 z3) k7 (by show 1 < 3; omega)
                  have k9 := AB.heap_set (i := 2) (v := .int .i64 c) k8 (by show 2 < 3; omega)
                  exact ⟨g6, _, _, _, _, _, _, rfl, k9, ols_set (ols_set (ols_set hD k6 (by decide)) k7 (by decide)) k8 (by decide), row_set (row_set (row_set hE k6 (by decide)) k7 (by decide)) k8 (by decide), hg6, ((hb0.setCell (p := ⟨g6, 0, none⟩) hg6 _).setCell (p := ⟨g6, 1, none⟩) hg6 _).setCell (p := ⟨g6, 2, none⟩) hg6 _⟩
              · go_simp
                try (go_wp2_with fail)
                have hq := albel x2 (.cells #[.slice none 0 0, .slice none 0 0, .int .i64 0] 33)
                have k6 := heap_alloc_new x2 (.cells #[.slice none 0 0, .slice none 0 0, .int .i64 0] 33)
                have hg6 : w14.heap.size ≤ x2.heap.size := hb0.size
                (try have hA := LRow.below hA hq); (try have hB := SRow.below hB hq); (try have hC := IRow.below hC hq); (try have hD := OLs.below hD hq); (try have hE := OT.below hE hq); have hb0 := bel2 hb0 hq
                clear hq
                generalize x2.alloc (.cells #[.slice none 0 0, .slice none 0 0, .int .i64 0] 33) = Y6 at *
                generalize x2.heap.size = g6 at *
                refine hK.out _ _ ?_ (fun hHeld => ?_)
                · exact KF.out _ hb0
                clear hK K
                try simp only [Act.put, List.setIfInBounds_toArray, List.set_cons_zero, List.set_cons_succ]
                refine wpAnyH_ready (rs := [4]) (by kernel_rfl) (by simp) ?_
                refine AllReadyH.cons rfl (fun K hK => ?_) AllReadyH.nil
                go_simp
                (go_at_call 8; refine (HI.out _ (bel2 b14.out hb0) _ _ _ hA hB hC).mono ?_; rintro e x3 ⟨tl, tk, rfl, hD, hE, hq⟩; have hD := OLs.mono hD hb0.size; have hE : OT w14.heap.size x3 tk kk := NU.own_mono hE hb0.size; (try have k6 := carry k6 hq); have hb0 := bel2 hb0 hq; clear hq hA hB hC; obtain ⟨y1, y2, y3, rfl⟩ := IJ.agg_form hD; obtain ⟨z1, z2, z3, rfl⟩ := IJ.ot_form hE)
                try (go_wp2_with fail)
                refine hK.out _ _ ?_ (fun hHeld => ?_)
                · exact KF.out _ hb0
                clear hK K
                try simp only [Act.put, List.setIfInBounds_toArray, List.set_cons_zero, List.set_cons_succ]
                obtain ⟨v0, v1, v2, vf⟩ := blk3a k6
                refine wpAnyH_ready (rs := [6]) (by kernel_rfl) (by simp) ?_
                refine AllReadyH.cons rfl (fun K hK => ?_) AllReadyH.nil
                go_simp
                try (go_wp2_with fail)
                refine hK.out _ _ ?_ (fun hHeld => ?_)
                · exact KF.out _ (((hb0.setCell (p := ⟨g6, 0, none⟩) hg6 _).setCell (p := ⟨g6, 1, none⟩) hg6 _).setCell (p := ⟨g6, 2, none⟩) hg6 _)
                clear hK K
                try simp only [Act.put, List.setIfInBounds_toArray, List.set_cons_zero, List.set_cons_succ]
                refine wpAnyH_done (by kernel_rfl) ?_ _
                go_wp2_with fail
                go_meet
                case rel =>
                  have k7 := AB.heap_set (i := 0) (v := .slice y1 y2 y3) k6 (by show 0 < 3; omega)
                  have k8 := AB.heap_set (i := 1) (v := .slice z1 z2 z3) k7 (by show 1 < 3; omega)
                  have k9 := AB.heap_set (i := 2) (v := .int .i64 c) k8 (by show 2 < 3; omega)
                  exact ⟨g6, _, _, _, _, _, _, rfl, k9, ols_set (ols_set (ols_set hD k6 (by decide)) k7 (by decide)) k8 (by decide), row_set (row_set (row_set hE k6 (by decide)) k7 (by decide)) k8 (by decide), hg6, ((hb0.setCell (p := ⟨g6, 0, none⟩) hg6 _).setCell (p := ⟨g6, 1, none⟩) hg6 _).setCell (p := ⟨g6, 2, none⟩) hg6 _⟩
            · go_simp
              try (go_wp2_with fail)
              have hq := albel x1 (.cells #[.slice none 0 0, .slice none 0 0, .int .i64 0] 33)
              have k6 := heap_alloc_new x1 (.cells #[.slice none 0 0, .slice none 0 0, .int .i64 0] 33)
              have hg6 : w14.heap.size ≤ x1.heap.size := hb0.size
              (try have hA := LRow.below hA hq); (try have hB := SRow.below hB hq); (try have hC := IRow.below hC hq); (try have hD := OLs.below hD hq); (try have hE := OT.below hE hq); have hb0 := bel2 hb0 hq
              clear hq
              generalize x1.alloc (.cells #[.slice none 0 0, .slice none 0 0, .int .i64 0] 33) = Y6 at *
              generalize x1.heap.size = g6 at *
              refine hK.out _ _ ?_ (fun hHeld => ?_)
              · exact KF.out _ hb0
              clear hK K
              try simp only [Act.put, List.setIfInBounds_toArray, List.set_cons_zero, List.set_cons_succ]
              refine wpAnyH_ready (rs := [3]) (by kernel_rfl) (by simp) ?_
              refine AllReadyH.cons rfl (fun K hK => ?_) AllReadyH.nil
              go_simp
              (go_at_call 29; refine (HTX2.out _ (bel2 b14.out hb0)).mono ?_; rintro e x2 ⟨vd, rfl, hC, hq⟩; have hC := OIRow.irow hC; have hA := LRow.below hA hq; have hB := SRow.below hB hq; (try have k6 := carry k6 hq); have hb0 := bel2 hb0 hq; clear hq)
              try (go_wp2_with fail)
              refine hK.out _ _ ?_ (fun hHeld => ?_)
              · exact KF.out _ hb0
              clear hK K
              try simp only [Act.put, List.setIfInBounds_toArray, List.set_cons_zero, List.set_cons_succ]
              refine wpAnyH_ready (rs := [4]) (by kernel_rfl) (by simp) ?_
              refine AllReadyH.cons rfl (fun K hK => ?_) AllReadyH.nil
              go_simp
              (go_at_call 8; refine (HI.out _ (bel2 b14.out hb0) _ _ _ hA hB hC).mono ?_; rintro e x3 ⟨tl, tk, rfl, hD, hE, hq⟩; have hD := OLs.mono hD hb0.size; have hE : OT w14.heap.size x3 tk kk := NU.own_mono hE hb0.size; (try have k6 := carry k6 hq); have hb0 := bel2 hb0 hq; clear hq hA hB hC; obtain ⟨y1, y2, y3, rfl⟩ := IJ.agg_form hD; obtain ⟨z1, z2, z3, rfl⟩ := IJ.ot_form hE)
              try (go_wp2_with fail)
              refine hK.out _ _ ?_ (fun hHeld => ?_)
              · exact KF.out _ hb0
              clear hK K
              try simp only [Act.put, List.setIfInBounds_toArray, List.set_cons_zero, List.set_cons_succ]
              obtain ⟨v0, v1, v2, vf⟩ := blk3a k6
              refine wpAnyH_ready (rs := [6]) (by kernel_rfl) (by simp) ?_
              refine AllReadyH.cons rfl (fun K hK => ?_) AllReadyH.nil
              go_simp
              try (go_wp2_with fail)
              refine hK.out _ _ ?_ (fun hHeld => ?_)
              · exact KF.out _ (((hb0.setCell (p := ⟨g6, 0, none⟩) hg6 _).setCell (p := ⟨g6, 1, none⟩) hg6 _).setCell (p := ⟨g6, 2, none⟩) hg6 _)
              clear hK K
              try simp only [Act.put, List.setIfInBounds_toArray, List.set_cons_zero, List.set_cons_succ]
              refine wpAnyH_done (by kernel_rfl) ?_ _
              go_wp2_with fail
              go_meet
              case rel =>
                have k7 := AB.heap_set (i := 0) (v := .slice y1 y2 y3) k6 (by show 0 < 3; omega)
                have k8 := AB.heap_set (i := 1) (v := .slice z1 z2 z3) k7 (by show 1 < 3; omega)
                have k9 := AB.heap_set (i := 2) (v := .int .i64 c) k8 (by show 2 < 3; omega)
                exact ⟨g6, _, _, _, _, _, _, rfl, k9, ols_set (ols_set (ols_set hD k6 (by decide)) k7 (by decide)) k8 (by decide), row_set (row_set (row_set hE k6 (by decide)) k7 (by decide)) k8 (by decide), hg6, ((hb0.setCell (p := ⟨g6, 0, none⟩) hg6 _).setCell (p := ⟨g6, 1, none⟩) hg6 _).setCell (p := ⟨g6, 2, none⟩) hg6 _⟩
          · go_simp
            try (go_wp2_with fail)
            have hq := albel V0 (.cells #[.slice none 0 0, .slice none 0 0, .int .i64 0] 33)
            have k6 := heap_alloc_new V0 (.cells #[.slice none 0 0, .slice none 0 0, .int .i64 0] 33)
            have hg6 : w14.heap.size ≤ V0.heap.size := hb0.size
            (try have hA := LRow.below hA hq); (try have hB := SRow.below hB hq); (try have hC := IRow.below hC hq); (try have hD := OLs.below hD hq); (try have hE := OT.below hE hq); have hb0 := bel2 hb0 hq
            clear hq
            generalize V0.alloc (.cells #[.slice none 0 0, .slice none 0 0, .int .i64 0] 33) = Y6 at *
            generalize V0.heap.size = g6 at *
            refine hK.out _ _ ?_ (fun hHeld => ?_)
            · exact KF.out _ hb0
            clear hK K
            try simp only [Act.put, List.setIfInBounds_toArray, List.set_cons_zero, List.set_cons_succ]
            refine wpAnyH_ready (rs := [1]) (by kernel_rfl) (by simp) ?_
            refine AllReadyH.cons rfl (fun K hK => ?_) AllReadyH.nil
            go_simp
            (go_at_call 26; refine (HTA2.out _ (bel2 b14.out hb0)).mono ?_; rintro e x1 ⟨ul, uk, rfl, hA, hB, hq⟩; have hA := OLs.lrow hA HZM.out.1; have hB := OStrs.strs hB; (try have k6 := carry k6 hq); have hb0 := bel2 hb0 hq; clear hq)
            try (go_wp2_with fail)
            refine hK.out _ _ ?_ (fun hHeld => ?_)
            · exact KF.out _ hb0
            clear hK K
            try simp only [Act.put, List.setIfInBounds_toArray, List.set_cons_zero, List.set_cons_succ]
            refine wpAnyH_ready (rs := [3]) (by kernel_rfl) (by simp) ?_
            refine AllReadyH.cons rfl (fun K hK => ?_) AllReadyH.nil
            go_simp
            (go_at_call 29; refine (HTX2.out _ (bel2 b14.out hb0)).mono ?_; rintro e x2 ⟨vd, rfl, hC, hq⟩; have hC := OIRow.irow hC; have hA := LRow.below hA hq; have hB := SRow.below hB hq; (try have k6 := carry k6 hq); have hb0 := bel2 hb0 hq; clear hq)
            try (go_wp2_with fail)
            refine hK.out _ _ ?_ (fun hHeld => ?_)
            · exact KF.out _ hb0
            clear hK K
            try simp only [Act.put, List.setIfInBounds_toArray, List.set_cons_zero, List.set_cons_succ]
            refine wpAnyH_ready (rs := [4]) (by kernel_rfl) (by simp) ?_
            refine AllReadyH.cons rfl (fun K hK => ?_) AllReadyH.nil
            go_simp
            (go_at_call 8; refine (HI.out _ (bel2 b14.out hb0) _ _ _ hA hB hC).mono ?_; rintro e x3 ⟨tl, tk, rfl, hD, hE, hq⟩; have hD := OLs.mono hD hb0.size; have hE : OT w14.heap.size x3 tk kk := NU.own_mono hE hb0.size; (try have k6 := carry k6 hq); have hb0 := bel2 hb0 hq; clear hq hA hB hC; obtain ⟨y1, y2, y3, rfl⟩ := IJ.agg_form hD; obtain ⟨z1, z2, z3, rfl⟩ := IJ.ot_form hE)
            try (go_wp2_with fail)
            refine hK.out _ _ ?_ (fun hHeld => ?_)
            · exact KF.out _ hb0
            clear hK K
            try simp only [Act.put, List.setIfInBounds_toArray, List.set_cons_zero, List.set_cons_succ]
            obtain ⟨v0, v1, v2, vf⟩ := blk3a k6
            refine wpAnyH_ready (rs := [6]) (by kernel_rfl) (by simp) ?_
            refine AllReadyH.cons rfl (fun K hK => ?_) AllReadyH.nil
            go_simp
            try (go_wp2_with fail)
            refine hK.out _ _ ?_ (fun hHeld => ?_)
            · exact KF.out _ (((hb0.setCell (p := ⟨g6, 0, none⟩) hg6 _).setCell (p := ⟨g6, 1, none⟩) hg6 _).setCell (p := ⟨g6, 2, none⟩) hg6 _)
            clear hK K
            try simp only [Act.put, List.setIfInBounds_toArray, List.set_cons_zero, List.set_cons_succ]
            refine wpAnyH_done (by kernel_rfl) ?_ _
            go_wp2_with fail
            go_meet
            case rel =>
              have k7 := AB.heap_set (i := 0) (v := .slice y1 y2 y3) k6 (by show 0 < 3; omega)
              have k8 := AB.heap_set (i := 1) (v := .slice z1 z2 z3) k7 (by show 1 < 3; omega)
              have k9 := AB.heap_set (i := 2) (v := .int .i64 c) k8 (by show 2 < 3; omega)
              exact ⟨g6, _, _, _, _, _, _, rfl, k9, ols_set (ols_set (ols_set hD k6 (by decide)) k7 (by decide)) k8 (by decide), row_set (row_set (row_set hE k6 (by decide)) k7 (by decide)) k8 (by decide), hg6, ((hb0.setCell (p := ⟨g6, 0, none⟩) hg6 _).setCell (p := ⟨g6, 1, none⟩) hg6 _).setCell (p := ⟨g6, 2, none⟩) hg6 _⟩
        case rest =>
          obtain ⟨gh, r1, r2, r3, s1, s2, s3, rfl, kh, hD, hE, hgh, hb⟩ := hcut
          have B15 : Hid _ := bel2 B14.out hb
          have L15 : Hid _ := LRow.below L14.out hb
          have S15 : Hid _ := SRow.below S14.out hb
          have g15 : Hid _ := carry g14.out hb
          have HEW : Hid _ := HE.out wc _ _ _ _ (hD.lrow HZM.out.2) (OStrs.strs hE) (FX.out _ B15.out).2.2.2.1 (FX.out _ B15.out).2.2.2.2.1
          clear hb KF B14 L14 S14 g14 hD hE hgh HI HTA2 HTX2 b14
          generalize wc = w15 at *
          obtain ⟨p0, p1, p2, pf⟩ := blk3a kh
          obtain ⟨q0, q1, q2, qf⟩ := blk3a (FX.out _ B15.out).2.2.1
          go_wp2_with fail
          refine Calls.mono HEW.out ?_
          rintro e w16 ⟨rfl, hb⟩
          have B16 : Hid _ := bel2 B15.out hb
          have L16 : Hid _ := LRow.below L15.out hb
          have S16 : Hid _ := SRow.below S15.out hb
          have g16 : Hid _ := carry g15.out hb
          clear hb HEW B15 L15 S15 g15 p0 p1 p2 pf q0 q1 q2 qf
          obtain ⟨p0, p1, p2, pf⟩ := blk3a g16.out
          go_wp2_with fail
          refine (HHO.out _ L16.out S16.out).mono ?_
          rintro e w17 ⟨rfl, hb⟩
          have B17 : Hid (Below w.heap.size w w17) := bel2 b3.out (bel2 B16.out hb)
          clear hb B16 L16 S16 g16 p0 p1 p2 pf
          go_wp2_with fail
          go_ret
          exact ⟨rfl, B17.out⟩
end Go.Proofs.YtkpjdmmgdmbmnaaDoor.YAuditAdd
