/-
  The walk of the law on shares.
-/
import Derived.Test.YtianmmonkllhpaaDoorDY
import Derived.Test.YtianmmonkllhpaaDoorDZ
import Derived.Test.YtianmmonkllhpaaDoorDB
import Derived.Test.YtianmmonkllhpaaDoorMV
import Derived.Test.YtianmmonkllhpaaDoorL7
import Derived.Test.YtianmmonkllhpaaDoorL4
import Derived.Test.YtianmmonkllhpaaDoorJ3
import Derived.Deep.DeepCutAuto
namespace Go.Proofs.YtianmmonkllhpaaDoor.YShare
open Go.RowKit
open Go.Proofs.YtianmmonkllhpaaDoor.C0 Go.Proofs.YtianmmonkllhpaaDoor.D0 Go.Proofs.YtianmmonkllhpaaDoor.HB Go.Proofs.YtianmmonkllhpaaDoor.NU
open Go.Proofs.YtianmmonkllhpaaDoor.SH (Sh Shares OShares cp)
open Go.Proofs.YtianmmonkllhpaaDoor.L0 (mulR invR)
open Go.Proofs.YtianmmonkllhpaaDoor.J1 (shareR)
open Go.Proofs.YtianmmonkllhpaaDoor.J5 (joinR)
open Go.Proofs.YtianmmonkllhpaaDoor.ST (splitR splitL splitOk splitL_length)
open Go.Proofs.YtianmmonkllhpaaDoor.MV (pickL)

set_option maxRecDepth 100000 in
set_option maxHeartbeats 6400000 in
theorem walk (a0 a1 : Option Addr) (n0 n1 c0 c1 : Nat) (w : World) (hL : K2.Laid w) (h0 : IsCode w.heap.size w (.slice a0 n0 c0) n0) (h1 : IsCode w.heap.size w (.slice a1 n1 c1) n1) :
    Calls Tryd.prog 3 #[.slice a0 n0 c0, .slice a1 n1 c1] w fun e w' => e = .returned (.bool true) ∧ Below w.heap.size w w' := by
  have m0 := h0.1
  have m1 := h1.1
  by_cases g0 : 1048576 < n0
  · have d0 : decide ((1048576 : Int) < (n0 : Int)) = true := by simp; omega
    go_enter Tryd.func3, Tryd.ntmps3
    go_wp2
    go_ret
    exact ⟨rfl, Below.refl _ _⟩
  have d0 : decide ((1048576 : Int) < (n0 : Int)) = false := by simp; omega
  by_cases g1 : 1048576 < n1
  · go_enter Tryd.func3, Tryd.ntmps3
    go_wp2
    go_ret
    exact ⟨rfl, Below.refl _ _⟩
  have d1 : decide ((1048576 : Int) < (n1 : Int)) = false := by simp; omega
  go_enter Tryd.func3, Tryd.ntmps3
  go_wp2_with fail
  refine (DY.split_draw _ n0 _ h0).mono ?_
  rintro e w1 ⟨m, nd, cd, sa, rfl, hm, nd0, nd7, cd0, cd7, hsa, B1⟩
  have hmM : m.size ≤ maxLen := by unfold maxLen; omega
  have hsM : sa.size ≤ maxLen := by unfold maxLen; omega
  obtain ⟨R, hR⟩ : ∃ R, splitR m nd cd sa = R := ⟨_, rfl⟩
  have HR : Hid (splitR m nd cd sa = R) := hR
  have hsi := fun W (hW : K2.Laid W) => L7.split_impl m sa nd cd W hmM hsM hW
  have hss := fun W => J7.split_any m sa nd cd W hmM hsM
  rw [hR] at hsi hss
  clear hR
  go_wp2_with fail
  refine (hsi _ (hL.below B1)).mono ?_
  rintro e w2 ⟨va, ca, rfl, ho, hb⟩
  clear hsi
  have B2 := bel2 B1 hb
  clear hb
  go_wp2_with fail
  refine (DZ.join_draw _ n1 _ ((h1.below B2 (Nat.le_refl _)).up B2.size)).mono ?_
  rintro e w3 ⟨kd, ja, jc, jl, rfl, hjs, hjc, hjz0, hb⟩
  have hjz : ∀ s ∈ jl, s.2.size ≤ maxLen := fun s hs => by have := hjz0 s hs; unfold maxLen; omega
  have B3 := bel2 B2 hb
  have ho3 := ho.below hb
  clear hb B2 ho hjz0
  go_wp2_with fail
  refine (DX.mul_draw _ n1 _ ((h1.below B3 (Nat.le_refl _)).up B3.size)).mono ?_
  rintro e w4 ⟨ga, gb, rfl, hb⟩
  have B4 := bel2 B3 hb
  have ho4 := ho3.below hb
  have js4 := hjs.below hb
  clear hb B3 ho3 hjs
  go_wp2_with fail
  refine (DX.inv_draw _ n0 _ ((h0.below B4 (Nat.le_refl _)).up B4.size)).mono ?_
  rintro e w5 ⟨gc, rfl, gc0, gc1, hb⟩
  have B5 := bel2 B4 hb
  have ho5 := ho4.below hb
  have js5 := js4.below hb
  clear hb B4 ho4 js4
  go_wp2_with fail
  refine (DX.right_draw _ n1 _ ((h1.below B5 (Nat.le_refl _)).up B5.size)).mono ?_
  rintro e w6 ⟨ri, rd, rfl, hrd, hb⟩
  have B6 := bel2 B5 hb
  have ho6 := ho5.below hb
  have js6 := js5.below hb
  clear hb B5 ho5 js5
  unfold DX.share
  go_upto_region 9 with fail
  have k6 := heap_alloc_new w6 (.cells #[.int .i64 ri, .string rd] 33)
  have BB := bel2 B6 (albel w6 (.cells #[.int .i64 ri, .string rd] 33))
  have ho7 := ho6.below (albel w6 (.cells #[.int .i64 ri, .string rd] 33))
  have js7 := js6.below (albel w6 (.cells #[.int .i64 ri, .string rd] 33))
  generalize w6.heap.size = D at *
  generalize (w6.alloc (.cells #[.int .i64 ri, .string rd] 33)) = W at k6 BB ho7 js7 ⊢
  clear B6 ho6 js6
  have hrdM : rd.size ≤ maxLen := by unfold maxLen; omega
  have hcode : Hid (∀ x, Below W.heap.size W x → IsCode W.heap.size x (.slice a1 n1 c1) n1) := fun x hx => (((h1.below BB (Nat.le_refl _)).up BB.size).below hx (Nat.le_refl _))
  have KF : Hid (∀ x, Below W.heap.size W x → x.cell? ⟨D, 0, none⟩ = some (.int .i64 ri) ∧ x.cell? ⟨D, 1, none⟩ = some (.string rd)) := fun x hx =>
    ⟨block_cell (carry k6 hx) 0, block_cell (carry k6 hx) 1⟩
  have HRS : Hid (∀ x, Below W.heap.size W x → Shares x (.slice va R.length ca) R) := fun x hx => ho7.shares.below hx
  have HOW : Hid (∃ B, OShares B W (.slice va R.length ca) R) := ⟨_, ho7⟩
  have CS : Hid (∀ x, Below W.heap.size W x → Calls Tryd.prog 12 #[.string m, .int .i64 nd, .int .i64 cd, .string sa] x fun e w' => ∃ a c, e = .returned (.slice a R.length c) ∧ Shares w' (.slice a R.length c) R ∧ Below W.heap.size W w') := fun x hx =>
    (hss x).mono fun e w' ⟨a, c, he, hown, hb⟩ => ⟨a, c, he, hown.shares, bel2 hx hb⟩
  have CE : Hid (∀ a c x, Below W.heap.size W x → Shares x (.slice a R.length c) R → Calls Tryd.prog 11 #[.slice va R.length ca, .slice a R.length c] x fun e w' => e = .returned (.bool true) ∧ Below W.heap.size W w') := fun a c x hx hs =>
    (DB.lwShares_any _ _ R x (HRS.out x hx) hs).mono fun e w' h => ⟨h.1, bel2 hx h.2⟩
  have CJ : Hid (∀ x, Below W.heap.size W x → Calls Tryd.prog 13 #[.int .i64 kd, .slice ja jl.length jc] x fun e w' => e = .returned (.string ⟨(joinR kd jl).toArray⟩) ∧ Below W.heap.size W w') := fun x hx =>
    (L4.join_impl kd ja jc jl x (js7.below hx) hjc hjz).mono fun e w' h => ⟨h.1, bel2 hx h.2⟩
  have CK : Hid (∀ x, Below W.heap.size W x → Calls Tryd.prog 14 #[.int .i64 kd, .slice ja jl.length jc] x fun e w' => e = .returned (.string ⟨(joinR kd jl).toArray⟩) ∧ Below W.heap.size W w') := fun x hx =>
    (J5.join_any kd _ jl x (js7.below hx) hjz).mono fun e w' h => ⟨h.1, bel2 hx h.2⟩
  have CM : Hid (∀ x, Below W.heap.size W x → Calls Tryd.prog 15 #[.int .i64 ga, .int .i64 gb] x fun e w' => e = .returned (.int .i64 (mulR ga gb : Nat)) ∧ Below W.heap.size W w') := fun x hx =>
    (L0.mul_any ga gb x).mono fun e w' h => ⟨h.1, by rw [← h.2]; exact hx⟩
  have CN : Hid (∀ x, Below W.heap.size W x → Calls Tryd.prog 16 #[.int .i64 ga, .int .i64 gb] x fun e w' => e = .returned (.int .i64 (mulR ga gb : Nat)) ∧ Below W.heap.size W w') := fun x hx =>
    (J3.mul_spec ga gb x).mono fun e w' h => ⟨h.1, by rw [← h.2]; exact hx⟩
  have CI : Hid (∀ x, Below W.heap.size W x → Calls Tryd.prog 17 #[.int .i64 gc] x fun e w' => e = .returned (.int .i64 (invR gc : Nat)) ∧ Below W.heap.size W w') := fun x hx =>
    (L0.inv_any gc x).mono fun e w' h => ⟨h.1, by rw [← h.2]; exact hx⟩
  have CP : Hid (∀ x, Below W.heap.size W x → Calls Tryd.prog 18 #[.int .i64 gc] x fun e w' => e = .returned (.int .i64 (invR gc : Nat)) ∧ Below W.heap.size W w') := fun x hx =>
    (J3.inv_spec gc x).mono fun e w' h => ⟨h.1, by rw [← h.2]; exact hx⟩
  have CQ : Hid (∀ x, Below W.heap.size W x → Calls Tryd.prog 19 #[.agg #[.int .i64 ri, .string rd]] x fun e w' => e = .returned (.bool (shareR ri rd)) ∧ Below W.heap.size W w') := fun x hx =>
    (L0.right_impl ri rd x hrdM).mono fun e w' h => ⟨h.1, bel2 hx h.2⟩
  have CR : Hid (∀ x, Below W.heap.size W x → Calls Tryd.prog 20 #[.agg #[.int .i64 ri, .string rd]] x fun e w' => e = .returned (.bool (shareR ri rd)) ∧ Below W.heap.size W w') := fun x hx =>
    (J1.right_spec ri rd x hrdM).mono fun e w' h => ⟨h.1, bel2 hx h.2⟩
  have CG : Hid (1 ≤ gc ∧ gc ≤ 255 → ∀ x, Below W.heap.size W x → Calls Tryd.prog 15 #[.int .i64 gc, .int .i64 (invR gc : Nat)] x fun e w' => e = .returned (.int .i64 1) ∧ Below W.heap.size W w') := fun hc x hx => by
    have := L0.mul_any gc (invR gc : Nat) x
    rw [MV.mul_inv_one hc] at this
    exact this.mono fun e w' h => ⟨h.1, by rw [← h.2]; exact hx⟩
  have BW : Hid (Below w.heap.size w W) := BB
  clear hss ho7 js7 k6 BB hjz
  generalize joinR kd jl = JR at *
  generalize mulR ga gb = GM at *
  generalize hinv : invR gc = GI at *
  generalize shareR ri rd = SR at *
  clear hinv
  have DR : Hid (W.drew.heap.size = W.heap.size) := rfl
  go_cut [92] (fun s x => s = .bool false ∧ Below W.heap.size W x)
  case first => as_aux_lemma =>
    have hb : Below W.heap.size W W.drew := (Below.refl _ _).drew
    refine wp_region_held_drew (S := (fun x => x.cell? ⟨D, 0, none⟩ = some (.int .i64 ri) ∧ x.cell? ⟨D, 1, none⟩ = some (.string rd))) (by kernel_rfl) (KF.out _ hb) (fun hHeld => ?_)
    refine TK.take_at 0 (some 53) (v := ?va0) rfl rfl (by kernel_rfl) (by kernel_rfl) (by kernel_rfl) (fun _ _ _ h => h) (Or.inl ⟨rfl, ?ha0⟩) hHeld ?ra0
    case ha0 => intro wq hSw; (try dsimp only at hSw); go_simp; all_goals (with_reducible rfl)
    try simp only [Act.put, List.setIfInBounds_toArray, List.set_cons_zero, List.set_cons_succ]
    refine TK.take_at 1 (some 54) (v := ?va1) rfl rfl (by kernel_rfl) (by kernel_rfl) (by kernel_rfl) (fun _ _ _ h => h) (Or.inl ⟨rfl, ?ha1⟩) hHeld ?ra1
    case ha1 => intro wq hSw; (try dsimp only at hSw); go_simp; all_goals (with_reducible rfl)
    try simp only [Act.put, List.setIfInBounds_toArray, List.set_cons_zero, List.set_cons_succ]
    refine TK.take_at 2 (some 55) (v := ?va2) rfl rfl (by kernel_rfl) (by kernel_rfl) (by kernel_rfl) (fun _ _ _ h => h) (Or.inl ⟨rfl, ?ha2⟩) hHeld ?ra2
    case ha2 => intro wq hSw; (try dsimp only at hSw); go_simp; all_goals (with_reducible rfl)
    try simp only [Act.put, List.setIfInBounds_toArray, List.set_cons_zero, List.set_cons_succ]
    refine TK.take_at 3 (some 56) (v := ?va3) rfl rfl (by kernel_rfl) (by kernel_rfl) (by kernel_rfl) (fun _ _ _ h => h) (Or.inl ⟨rfl, ?ha3⟩) hHeld ?ra3
    case ha3 => intro wq hSw; (try dsimp only at hSw); go_simp; all_goals (with_reducible rfl)
    try simp only [Act.put, List.setIfInBounds_toArray, List.set_cons_zero, List.set_cons_succ]
    refine TK.take_at 4 (some 57) (v := ?va4) rfl rfl (by kernel_rfl) (by kernel_rfl) (by kernel_rfl) (fun _ _ _ h => h) (Or.inl ⟨rfl, ?ha4⟩) hHeld ?ra4
    case ha4 => intro wq hSw; (try dsimp only at hSw); go_simp; all_goals (with_reducible rfl)
    try simp only [Act.put, List.setIfInBounds_toArray, List.set_cons_zero, List.set_cons_succ]
    refine wpAnyH_ready (rs := [5]) (by kernel_rfl) (by simp) ?_
    refine AllReadyH.cons rfl (fun K hK => ?_) AllReadyH.nil
    go_simp
    (go_at_call 12; refine (CS.out _ hb).mono ?_; rintro e x1 ⟨sa1, sc1, rfl, hsh1, hb⟩)
    try (go_wp2_with fail)
    refine hK.out _ _ ?_ (fun hHeld => ?_)
    · exact KF.out _ hb
    clear hK K
    try simp only [Act.put, List.setIfInBounds_toArray, List.set_cons_zero, List.set_cons_succ]
    refine wpAnyH_ready (rs := [6]) (by kernel_rfl) (by simp) ?_
    refine AllReadyH.cons rfl (fun K hK => ?_) AllReadyH.nil
    go_simp
    (go_at_call 11; refine (CE.out _ _ _ hb hsh1).mono ?_; rintro e x2 ⟨rfl, hb⟩)
    try (go_wp2_with fail)
    refine hK.out _ _ ?_ (fun hHeld => ?_)
    · exact KF.out _ hb
    clear hK K
    try simp only [Act.put, List.setIfInBounds_toArray, List.set_cons_zero, List.set_cons_succ]
    refine TK.take_at 7 (some 60) (v := ?va7) rfl rfl (by kernel_rfl) (by kernel_rfl) (by kernel_rfl) (fun _ _ _ h => h) (Or.inl ⟨rfl, ?ha7⟩) hHeld ?ra7
    case ha7 => intro wq hSw; (try dsimp only at hSw); go_simp; all_goals (with_reducible rfl)
    try simp only [Act.put, List.setIfInBounds_toArray, List.set_cons_zero, List.set_cons_succ]
    refine TK.take_at 8 (some 61) (v := ?va8) rfl rfl (by kernel_rfl) (by kernel_rfl) (by kernel_rfl) (fun _ _ _ h => h) (Or.inl ⟨rfl, ?ha8⟩) hHeld ?ra8
    case ha8 => intro wq hSw; (try dsimp only at hSw); go_simp; all_goals (with_reducible rfl)
    try simp only [Act.put, List.setIfInBounds_toArray, List.set_cons_zero, List.set_cons_succ]
    refine TK.take_at 9 (some 62) (v := ?va9) rfl rfl (by kernel_rfl) (by kernel_rfl) (by kernel_rfl) (fun _ _ _ h => h) (Or.inl ⟨rfl, ?ha9⟩) hHeld ?ra9
    case ha9 => intro wq hSw; (try dsimp only at hSw); go_simp; all_goals (with_reducible rfl)
    try simp only [Act.put, List.setIfInBounds_toArray, List.set_cons_zero, List.set_cons_succ]
    refine TK.take_at 10 (some 63) (v := ?va10) rfl rfl (by kernel_rfl) (by kernel_rfl) (by kernel_rfl) (fun _ _ _ h => h) (Or.inl ⟨rfl, ?ha10⟩) hHeld ?ra10
    case ha10 => intro wq hSw; (try dsimp only at hSw); go_simp; all_goals (with_reducible rfl)
    try simp only [Act.put, List.setIfInBounds_toArray, List.set_cons_zero, List.set_cons_succ]
    refine TK.take_at 12 (some 65) (v := ?va12) rfl rfl (by kernel_rfl) (by kernel_rfl) (by kernel_rfl) (fun _ _ _ h => h) (Or.inl ⟨rfl, ?ha12⟩) hHeld ?ra12
    case ha12 => intro wq hSw; (try dsimp only at hSw); go_simp; all_goals (with_reducible rfl)
    try simp only [Act.put, List.setIfInBounds_toArray, List.set_cons_zero, List.set_cons_succ]
    refine TK.take_at 13 (some 66) (v := ?va13) rfl rfl (by kernel_rfl) (by kernel_rfl) (by kernel_rfl) (fun _ _ _ h => h) (Or.inl ⟨rfl, ?ha13⟩) hHeld ?ra13
    case ha13 => intro wq hSw; (try dsimp only at hSw); go_simp; all_goals (with_reducible rfl)
    try simp only [Act.put, List.setIfInBounds_toArray, List.set_cons_zero, List.set_cons_succ]
    refine wpAnyH_ready (rs := [11]) (by kernel_rfl) (by simp) ?_
    refine AllReadyH.cons rfl (fun K hK => ?_) AllReadyH.nil
    go_simp
    (go_at_call 13; refine (CJ.out _ hb).mono ?_; rintro e x3 ⟨rfl, hb⟩)
    try (go_wp2_with fail)
    refine hK.out _ _ ?_ (fun hHeld => ?_)
    · exact KF.out _ hb
    clear hK K
    try simp only [Act.put, List.setIfInBounds_toArray, List.set_cons_zero, List.set_cons_succ]
    refine wpAnyH_ready (rs := [14]) (by kernel_rfl) (by simp) ?_
    refine AllReadyH.cons rfl (fun K hK => ?_) AllReadyH.nil
    go_simp
    (go_at_call 14; refine (CK.out _ hb).mono ?_; rintro e x4 ⟨rfl, hb⟩)
    try (go_wp2_with fail)
    refine hK.out _ _ ?_ (fun hHeld => ?_)
    · exact KF.out _ hb
    clear hK K
    try simp only [Act.put, List.setIfInBounds_toArray, List.set_cons_zero, List.set_cons_succ]
    refine TK.take_at 15 (some 68) (v := ?va15) rfl rfl (by kernel_rfl) (by kernel_rfl) (by kernel_rfl) (fun _ _ _ h => h) (Or.inl ⟨rfl, ?ha15⟩) hHeld ?ra15
    case ha15 => intro wq hSw; (try dsimp only at hSw); go_simp; all_goals (with_reducible rfl)
    try simp only [Act.put, List.setIfInBounds_toArray, List.set_cons_zero, List.set_cons_succ]
    refine TK.take_at 16 (some 69) (v := ?va16) rfl rfl (by kernel_rfl) (by kernel_rfl) (by kernel_rfl) (fun _ _ _ h => h) (Or.inl ⟨rfl, ?ha16⟩) hHeld ?ra16
    case ha16 => intro wq hSw; (try dsimp only at hSw); go_simp; all_goals (with_reducible rfl)
    try simp only [Act.put, List.setIfInBounds_toArray, List.set_cons_zero, List.set_cons_succ]
    refine TK.take_at 17 (some 70) (v := ?va17) rfl rfl (by kernel_rfl) (by kernel_rfl) (by kernel_rfl) (fun _ _ _ h => h) (Or.inl ⟨rfl, ?ha17⟩) hHeld ?ra17
    case ha17 => intro wq hSw; (try dsimp only at hSw); go_simp; all_goals (with_reducible rfl)
    try simp only [Act.put, List.setIfInBounds_toArray, List.set_cons_zero, List.set_cons_succ]
    refine TK.take_at 18 (some 71) (v := ?va18) rfl rfl (by kernel_rfl) (by kernel_rfl) (by kernel_rfl) (fun _ _ _ h => h) (Or.inl ⟨rfl, ?ha18⟩) hHeld ?ra18
    case ha18 => intro wq hSw; (try dsimp only at hSw); go_simp; all_goals (with_reducible rfl)
    try simp only [Act.put, List.setIfInBounds_toArray, List.set_cons_zero, List.set_cons_succ]
    refine TK.take_at 19 (some 72) (v := ?va19) rfl rfl (by kernel_rfl) (by kernel_rfl) (by kernel_rfl) (fun _ _ _ h => h) (Or.inl ⟨rfl, ?ha19⟩) hHeld ?ra19
    case ha19 => intro wq hSw; (try dsimp only at hSw); go_simp; all_goals (with_reducible rfl)
    try simp only [Act.put, List.setIfInBounds_toArray, List.set_cons_zero, List.set_cons_succ]
    refine TK.take_at 21 (some 74) (v := ?va21) rfl rfl (by kernel_rfl) (by kernel_rfl) (by kernel_rfl) (fun _ _ _ h => h) (Or.inl ⟨rfl, ?ha21⟩) hHeld ?ra21
    case ha21 => intro wq hSw; (try dsimp only at hSw); go_simp; all_goals (with_reducible rfl)
    try simp only [Act.put, List.setIfInBounds_toArray, List.set_cons_zero, List.set_cons_succ]
    refine TK.take_at 22 (some 75) (v := ?va22) rfl rfl (by kernel_rfl) (by kernel_rfl) (by kernel_rfl) (fun _ _ _ h => h) (Or.inl ⟨rfl, ?ha22⟩) hHeld ?ra22
    case ha22 => intro wq hSw; (try dsimp only at hSw); go_simp; all_goals (with_reducible rfl)
    try simp only [Act.put, List.setIfInBounds_toArray, List.set_cons_zero, List.set_cons_succ]
    refine wpAnyH_ready (rs := [20]) (by kernel_rfl) (by simp) ?_
    refine AllReadyH.cons rfl (fun K hK => ?_) AllReadyH.nil
    go_simp
    (go_at_call 15; refine (CM.out _ hb).mono ?_; rintro e x5 ⟨rfl, hb⟩)
    try (go_wp2_with fail)
    refine hK.out _ _ ?_ (fun hHeld => ?_)
    · exact KF.out _ hb
    clear hK K
    try simp only [Act.put, List.setIfInBounds_toArray, List.set_cons_zero, List.set_cons_succ]
    refine wpAnyH_ready (rs := [23]) (by kernel_rfl) (by simp) ?_
    refine AllReadyH.cons rfl (fun K hK => ?_) AllReadyH.nil
    go_simp
    (go_at_call 16; refine (CN.out _ hb).mono ?_; rintro e x6 ⟨rfl, hb⟩)
    try (go_wp2_with fail)
    refine hK.out _ _ ?_ (fun hHeld => ?_)
    · exact KF.out _ hb
    clear hK K
    try simp only [Act.put, List.setIfInBounds_toArray, List.set_cons_zero, List.set_cons_succ]
    refine TK.take_at 24 (some 77) (v := ?va24) rfl rfl (by kernel_rfl) (by kernel_rfl) (by kernel_rfl) (fun _ _ _ h => h) (Or.inl ⟨rfl, ?ha24⟩) hHeld ?ra24
    case ha24 => intro wq hSw; (try dsimp only at hSw); go_simp; all_goals (with_reducible rfl)
    try simp only [Act.put, List.setIfInBounds_toArray, List.set_cons_zero, List.set_cons_succ]
    refine TK.take_at 25 (some 78) (v := ?va25) rfl rfl (by kernel_rfl) (by kernel_rfl) (by kernel_rfl) (fun _ _ _ h => h) (Or.inl ⟨rfl, ?ha25⟩) hHeld ?ra25
    case ha25 => intro wq hSw; (try dsimp only at hSw); go_simp; all_goals (with_reducible rfl)
    try simp only [Act.put, List.setIfInBounds_toArray, List.set_cons_zero, List.set_cons_succ]
    refine TK.take_at 26 (some 79) (v := ?va26) rfl rfl (by kernel_rfl) (by kernel_rfl) (by kernel_rfl) (fun _ _ _ h => h) (Or.inl ⟨rfl, ?ha26⟩) hHeld ?ra26
    case ha26 => intro wq hSw; (try dsimp only at hSw); go_simp; all_goals (with_reducible rfl)
    try simp only [Act.put, List.setIfInBounds_toArray, List.set_cons_zero, List.set_cons_succ]
    refine TK.take_at 27 (some 80) (v := ?va27) rfl rfl (by kernel_rfl) (by kernel_rfl) (by kernel_rfl) (fun _ _ _ h => h) (Or.inl ⟨rfl, ?ha27⟩) hHeld ?ra27
    case ha27 => intro wq hSw; (try dsimp only at hSw); go_simp; all_goals (with_reducible rfl)
    try simp only [Act.put, List.setIfInBounds_toArray, List.set_cons_zero, List.set_cons_succ]
    refine TK.take_at 29 (some 82) (v := ?va29) rfl rfl (by kernel_rfl) (by kernel_rfl) (by kernel_rfl) (fun _ _ _ h => h) (Or.inl ⟨rfl, ?ha29⟩) hHeld ?ra29
    case ha29 => intro wq hSw; (try dsimp only at hSw); go_simp; all_goals (with_reducible rfl)
    try simp only [Act.put, List.setIfInBounds_toArray, List.set_cons_zero, List.set_cons_succ]
    refine wpAnyH_ready (rs := [28]) (by kernel_rfl) (by simp) ?_
    refine AllReadyH.cons rfl (fun K hK => ?_) AllReadyH.nil
    go_simp
    (go_at_call 17; refine (CI.out _ hb).mono ?_; rintro e x7 ⟨rfl, hb⟩)
    try (go_wp2_with fail)
    refine hK.out _ _ ?_ (fun hHeld => ?_)
    · exact KF.out _ hb
    clear hK K
    try simp only [Act.put, List.setIfInBounds_toArray, List.set_cons_zero, List.set_cons_succ]
    refine wpAnyH_ready (rs := [30]) (by kernel_rfl) (by simp) ?_
    refine AllReadyH.cons rfl (fun K hK => ?_) AllReadyH.nil
    go_simp
    (go_at_call 18; refine (CP.out _ hb).mono ?_; rintro e x8 ⟨rfl, hb⟩)
    try (go_wp2_with fail)
    refine hK.out _ _ ?_ (fun hHeld => ?_)
    · exact KF.out _ hb
    clear hK K
    try simp only [Act.put, List.setIfInBounds_toArray, List.set_cons_zero, List.set_cons_succ]
    refine TK.take_at 31 (some 84) (v := ?va31) rfl rfl (by kernel_rfl) (by kernel_rfl) (by kernel_rfl) (fun _ _ _ h => h) (Or.inl ⟨rfl, ?ha31⟩) hHeld ?ra31
    case ha31 => intro wq hSw; (try dsimp only at hSw); go_simp; all_goals (with_reducible rfl)
    try simp only [Act.put, List.setIfInBounds_toArray, List.set_cons_zero, List.set_cons_succ]
    refine TK.take_at 32 (some 85) (v := ?va32) rfl rfl (by kernel_rfl) (by kernel_rfl) (by kernel_rfl) (fun _ _ _ h => h) (Or.inl ⟨rfl, ?ha32⟩) hHeld ?ra32
    case ha32 => intro wq hSw; (try dsimp only at hSw); go_simp; all_goals (with_reducible rfl)
    try simp only [Act.put, List.setIfInBounds_toArray, List.set_cons_zero, List.set_cons_succ]
    refine TK.take_at 33 (some 86) (v := ?va33) rfl rfl (by kernel_rfl) (by kernel_rfl) (by kernel_rfl) (fun _ _ _ h => h) (Or.inl ⟨rfl, ?ha33⟩) hHeld ?ra33
    case ha33 => intro wq hSw; (try dsimp only at hSw); go_simp; all_goals (with_reducible rfl)
    try simp only [Act.put, List.setIfInBounds_toArray, List.set_cons_zero, List.set_cons_succ]
    refine TK.take_at 34 (some 87) (v := ?va34) rfl rfl (by kernel_rfl) (by kernel_rfl) (by kernel_rfl) (fun _ _ _ h => h) (Or.inl ⟨rfl, ?ha34⟩) hHeld ?ra34
    case ha34 => intro wq hSw; (try dsimp only at hSw); go_simp; all_goals (with_reducible rfl)
    try simp only [Act.put, List.setIfInBounds_toArray, List.set_cons_zero, List.set_cons_succ]
    refine TK.take_at 36 (some 89) (v := ?va36) rfl rfl (by kernel_rfl) (by kernel_rfl) (by kernel_rfl) (fun _ _ _ h => h) (Or.inl ⟨rfl, ?ha36⟩) hHeld ?ra36
    case ha36 => intro wq hSw; (try dsimp only at hSw); go_simp; all_goals (with_reducible rfl)
    try simp only [Act.put, List.setIfInBounds_toArray, List.set_cons_zero, List.set_cons_succ]
    refine wpAnyH_ready (rs := [35]) (by kernel_rfl) (by simp) ?_
    refine AllReadyH.cons rfl (fun K hK => ?_) AllReadyH.nil
    go_simp
    (go_at_call 19; refine (CQ.out _ hb).mono ?_; rintro e x9 ⟨rfl, hb⟩)
    try (go_wp2_with fail)
    refine hK.out _ _ ?_ (fun hHeld => ?_)
    · exact KF.out _ hb
    clear hK K
    try simp only [Act.put, List.setIfInBounds_toArray, List.set_cons_zero, List.set_cons_succ]
    refine wpAnyH_ready (rs := [37]) (by kernel_rfl) (by simp) ?_
    refine AllReadyH.cons rfl (fun K hK => ?_) AllReadyH.nil
    go_simp
    (go_at_call 20; refine (CR.out _ hb).mono ?_; rintro e x10 ⟨rfl, hb⟩)
    try (go_wp2_with fail)
    refine hK.out _ _ ?_ (fun hHeld => ?_)
    · exact KF.out _ hb
    clear hK K
    try simp only [Act.put, List.setIfInBounds_toArray, List.set_cons_zero, List.set_cons_succ]
    refine TK.take_at 38 (some 91) (v := ?va38) rfl rfl (by kernel_rfl) (by kernel_rfl) (by kernel_rfl) (fun _ _ _ h => h) (Or.inl ⟨rfl, ?ha38⟩) hHeld ?ra38
    case ha38 => intro wq hSw; (try dsimp only at hSw); go_simp; all_goals (with_reducible rfl)
    try simp only [Act.put, List.setIfInBounds_toArray, List.set_cons_zero, List.set_cons_succ]
    refine TK.take_at 39 (some 92) (v := ?va39) rfl rfl (by kernel_rfl) (by kernel_rfl) (by kernel_rfl) (fun _ _ _ h => h) (Or.inl ⟨rfl, ?ha39⟩) hHeld ?ra39
    case ha39 => intro wq hSw; (try dsimp only at hSw); go_simp; all_goals (with_reducible rfl)
    try simp only [Act.put, List.setIfInBounds_toArray, List.set_cons_zero, List.set_cons_succ]
    refine wpAnyH_done (by kernel_rfl) ?_ _
    go_wp2_with fail
    go_meet
    case rel => exact ⟨rfl, hb⟩
  case rest =>
    obtain ⟨rfl, hb⟩ := hcut
    clear CS CE CJ CK CM CN CP CQ CR KF
    go_upto_region 11 with fail
    go_cut [105] (fun s x => s = .bool false ∧ Below W.heap.size W x)
    case first => as_aux_lemma =>
      by_cases e1 : 1 ≤ gc
      · have t1 : decide (1 ≤ gc) = true := decide_eq_true e1
        by_cases e2 : gc ≤ 255
        · have t2 : decide (gc ≤ 255) = true := decide_eq_true e2
          have CG2 := CG.out ⟨e1, e2⟩
          go_wp2_with fail
          refine (CI.out _ hb).mono ?_
          rintro e x1 ⟨rfl, hb⟩
          go_wp2_with fail
          refine (CG2 _ hb).mono ?_
          rintro e x2 ⟨rfl, hb⟩
          go_wp2_with fail
          go_meet
          case rel => exact ⟨rfl, hb⟩
        · have t2 : decide (gc ≤ 255) = false := decide_eq_false e2
          go_wp2_with fail
          go_meet
          case rel => exact ⟨rfl, hb⟩
      · have t1 : decide (1 ≤ gc) = false := decide_eq_false e1
        go_wp2_with fail
        go_meet
        case rel => exact ⟨rfl, hb⟩
    case rest =>
      obtain ⟨rfl, hb⟩ := hcut
      clear CI CG
      by_cases hR0 : R.length = 0
      · have HF : Hid (Below w.heap.size w wc) := BW.out.trans (hb.mono BW.out.size)
        have hl0 : ((R.length : Int) == 0) = true := by rw [hR0]; rfl
        clear hb HRS HOW HR hR0
        go_wp2_with fail
        go_ret
        exact ⟨rfl, HF.out⟩
      · have hl0 : ((R.length : Int) == 0) = false := by rw [beq_eq_false_iff_ne]; omega
        obtain ⟨cn, nn, mm, hcn, hnn, hnm, hnc, hc6, hs1, hs2, hRL⟩ : ∃ cn nn mm : Nat, cd = cn ∧ nd = nn ∧ nn = mm + 1 ∧ nn ≤ cn ∧ cn ≤ 6 ∧ 1 ≤ m.size ∧ m.size ≤ 16 ∧ R = splitL m sa mm cn := by
          cases hok : splitOk m nd cd sa with
          | false => exact absurd (by rw [← HR.out, J7.splitR_no hok]; rfl) hR0
          | true =>
            have hok2 := hok
            unfold splitOk at hok2
            obtain ⟨p1, p2⟩ := Bool.and_eq_true_iff.1 hok2
            obtain ⟨p2, p3⟩ := Bool.and_eq_true_iff.1 p2
            obtain ⟨p3, p4⟩ := Bool.and_eq_true_iff.1 p3
            have q1 := of_decide_eq_true p1
            have q2 := of_decide_eq_true p2
            have q3 := of_decide_eq_true p3
            refine ⟨cd.toNat, nd.toNat, nd.toNat - 1, by omega, by omega, by omega, by omega, by omega, q1.1, q1.2, ?_⟩
            rw [← HR.out]
            unfold splitR
            rw [hok, if_pos rfl]
        subst hcn
        subst hnn
        have hRl : R.length = cn := by rw [hRL, splitL_length]
        have HRL : Hid (R = splitL m sa mm cn) := hRL
        have HNM : Hid (nn = mm + 1) := hnm
        have hcn1 : 1 ≤ cn := by omega
        have hn1 : 1 ≤ nn := by omega
        have hb0 : Hid (Below W.heap.size W wc) := hb
        clear hRL HR hnm hR0 hb
        go_wp2_with fail
        refine (DB.at_any _ n1 _ 0 (cn : Int) _ (hcode.out _ hb0.out) (by omega) (by omega)).mono ?_
        rintro e wx ⟨st, rfl, hst, rfl⟩
        have hst : st < cn := by rcases hst with h | h <;> omega
        have HP0 : Hid (OShares W.heap.size (wc.alloc (.cells #[] 33)) (.slice (some ⟨wc.heap.size, 0, none⟩) 0 0) (pickL m sa mm cn st 0) ∧ Below W.heap.size W (wc.alloc (.cells #[] 33)) ∧ W.heap.size ≤ (wc.alloc (.cells #[] 33)).heap.size) :=
          ⟨World.ownsRow_lit wc #[] 0 hb0.out.size (by decide) rfl, hb0.out.alloc hb0.out.size _, by rw [asz]; have := hb0.out.size; omega⟩
        have HCE : Hid (∀ x, Below W.heap.size W x → ∃ b off, va = some ⟨b, off, none⟩ ∧ ∀ i, i < cn → x.cell? ⟨b, off + i * 2, none⟩ = some (.int .i64 ((i + 1 : Nat) : Int)) ∧ x.cell? ⟨b, off + i * 2 + 1, none⟩ = some (.string (⟨(ST.shareL m sa mm (i + 1)).toArray⟩ : ByteArray))) := fun x hx => by
          obtain ⟨a', c', he, -, hc⟩ := HRS.out x hx
          obtain ⟨b, off, hb, -, hcc⟩ := hc (by omega)
          simp only [Value.slice.injEq] at he
          refine ⟨b, off, he.1.trans hb, fun i hi => hcc i (((i + 1 : Nat) : Int), (⟨(ST.shareL m sa mm (i + 1)).toArray⟩ : ByteArray)) ?_⟩
          rw [HRL.out]
          exact MV.split_at m sa mm cn i hi
        clear hcode hb0
        rw [hRl] at HRS
        have hRI : (R.length : Int) = (cn : Int) := by omega
        obtain ⟨b, off, hva, -⟩ := HCE.out W (Below.refl _ _)
        subst hva
        have HCF : Hid (∀ x, Below W.heap.size W x → ∀ i, i < cn → x.cell? ⟨b, off + i * 2, none⟩ = some (.int .i64 ((i + 1 : Nat) : Int)) ∧ x.cell? ⟨b, off + i * 2 + 1, none⟩ = some (.string (⟨(ST.shareL m sa mm (i + 1)).toArray⟩ : ByteArray))) := fun x hx => by
          obtain ⟨b', off', he, hc⟩ := HCE.out x hx
          simp only [Option.some.injEq, Addr.mk.injEq] at he
          obtain ⟨rfl, rfl, -⟩ := he
          exact hc
        clear HCE HRS HOW
        go_wp2_with fail
        go_loopw [17, 18] (fun p i x => ∃ q : Nat, q ≤ nn ∧ i = .int .i64 (q : Nat) ∧ OShares W.heap.size x p (pickL m sa mm cn st q) ∧ Below W.heap.size W x ∧ W.heap.size ≤ x.heap.size) (fun _ i _ => nn - (intOf i).toNat)
        case atStart => exact ⟨0, Nat.zero_le _, rfl, HP0.out⟩
        case round =>
          clear HP0
          obtain ⟨q, hq, rfl, ho, hbl, hzl⟩ := hrel
          by_cases hqt : q < nn
          · have hqi : (q : Int) < (nn : Int) := by omega
            obtain ⟨ix, hix⟩ : ∃ ix, (st + 2 * cn - q) % cn = ix := ⟨_, rfl⟩
            have hixl : ix < cn := by rw [← hix]; exact Nat.mod_lt _ hcn1
            have hxi : ((st : Int) + 2 * (cn : Int) - (q : Int)) % (cn : Int) = (ix : Int) := by
              rw [show (st : Int) + 2 * (cn : Int) - (q : Int) = ((st + 2 * cn - q : Nat) : Int) by omega, ← Int.natCast_emod, hix]
            have hxt : Int.tmod ((st : Int) + 2 * (cn : Int) - (q : Int)) (cn : Int) = (ix : Int) := by
              rw [Int.tmod_eq_emod_of_nonneg (by omega)]; exact hxi
            have HCH : Hid (Gf.chosen cn st q = ix + 1) := by unfold Hid Gf.chosen; rw [hix]
            have hcz : ((cn : Int) == 0) = false := by rw [beq_eq_false_iff_ne]; omega
            have hcz2 : ¬ (cn : Int) = 0 := by omega
            obtain ⟨k0, k1⟩ := HCF.out wr hbl ix hixl
            obtain ⟨sh, hsh⟩ : ∃ s : ByteArray, (⟨(ST.shareL m sa mm (ix + 1)).toArray⟩ : ByteArray) = s := ⟨_, rfl⟩
            rw [hsh] at k1
            have hixR : (ix : Int) < (R.length : Int) := by omega
            have hixN : ix < R.length := by omega
            have HPS : Hid (pickL m sa mm cn st (q + 1) = pickL m sa mm cn st q ++ [(((ix + 1 : Nat) : Int), sh)]) := by
              unfold Hid; rw [MV.pickL_succ, HCH.out, hsh]
            have HPn : Hid ((pickL m sa mm cn st q).length = q) := MV.pickL_length _ _ _ _ _ _
            obtain ⟨z, hz⟩ : ∃ z, ix + 1 = z := ⟨_, rfl⟩
            rw [hz] at k0 HPS
            have G4 : Hid (OShares W.heap.size (wr.alloc (.cells #[.int .i64 (z : Nat), .string sh] 33)) u17 (pickL m sa mm cn st q) ∧ Below W.heap.size W (wr.alloc (.cells #[.int .i64 (z : Nat), .string sh] 33)) ∧ W.heap.size ≤ (wr.alloc (.cells #[.int .i64 (z : Nat), .string sh] 33)).heap.size) :=
              ⟨ho.below (albel _ _), hbl.alloc hzl _, by rw [asz]; omega⟩
            clear ho hbl hzl hix hsh hz HCH
            generalize pickL m sa mm cn st q = L1 at *
            go_wp2_with (first
              | (at_builtin; refine NU.list_app (by rfl) _ _ 25 33 (by rfl) W.heap.size (.agg #[.int .i64 0, .string ⟨#[]⟩]) 2 24 Tryd.underlying25 ST.info_share (by rfl) (by decide) (by decide) u17 _ _ (by rfl) G4.out.1 (by have := HPn.out; omega) ⟨wr.heap.size, 0, none⟩ 1 [.int .i64 (z : Nat), .string sh] (by rfl) (by rfl) (ST.one_share _ _ _ _) (by simp [Value.oneCell']) G4.out.2.2 ?_; intro gg cap1 xn hown1 hgrow hat hlt1))
            have HE : Hid (OShares W.heap.size xn (.slice (some ⟨gg, 0, none⟩) (L1.length + 1) cap1) (pickL m sa mm cn st (q + 1)) ∧ Below W.heap.size W xn ∧ W.heap.size ≤ xn.heap.size) :=
              ⟨by rw [HPS.out]; exact ST.OShares.snoc hown1, grown_bel G4.out.2.1 G4.out.1 hgrow G4.out.2.2, Nat.le_trans G4.out.2.2 hgrow.size⟩
            clear hown1 hgrow hat hlt1
            go_wp2
            go_roundw
            case rel => exact ⟨q + 1, by omega, by go_num, HE.out⟩
            case measure => simp [intOf]; omega
          · obtain rfl : q = nn := by omega
            have hPl : (pickL m sa mm cn st q).length = q := MV.pickL_length _ _ _ _ _ _
            obtain ⟨gp, cp1, hu, hcp⟩ : ∃ gp cp1, u17 = .slice (some ⟨gp, 0, none⟩) q cp1 ∧ q ≤ cp1 := by
              rcases ho.2 with ⟨h1, h0⟩ | ⟨g, cap, cur, h1, _, _, hnc, _⟩
              · omega
              · exact ⟨g, cap, by rw [h1, hPl], by omega⟩
            subst hu
            have hPz : ∀ s ∈ pickL m sa mm cn st q, s.2.size ≤ maxLen := by
              intro s hs
              unfold pickL at hs
              obtain ⟨i, _, rfl⟩ := List.mem_map.1 hs
              show (⟨(ST.shareL _ _ _ _).toArray⟩ : ByteArray).size ≤ maxLen
              rw [MV.share_size]; unfold maxLen; omega
            have HJ1 : Hid (∀ x, Below W.heap.size W x → Shares x (.slice (some ⟨gp, 0, none⟩) q cp1) (pickL m sa mm cn st q) → Calls Tryd.prog 13 #[.int .i64 (q : Nat), .slice (some ⟨gp, 0, none⟩) q cp1] x fun e w' => e = .returned (.string m) ∧ Below x.heap.size x w') := fun x hx hs => by
              have h := L4.join_impl (q : Nat) (some ⟨gp, 0, none⟩) cp1 (pickL m sa mm cn st q) x (by rw [hPl]; exact hs) (by omega) hPz
              rw [hPl] at h
              have e := MV.join_pick m sa mm cn st (by omega) hst (by have := HNM.out; omega) hs1 hs2
              rw [← HNM.out] at e
              rw [e] at h
              exact h
            have hDl : ((pickL m sa mm cn st q).drop 1).length = q - 1 := by rw [List.length_drop, hPl]
            have HJ2 : Hid (∀ a c x, Shares x (.slice a (q - 1) c) ((pickL m sa mm cn st q).drop 1) → q - 1 ≤ c → Calls Tryd.prog 13 #[.int .i64 (q : Nat), .slice a (q - 1) c] x fun e w' => e = .returned (.string ⟨#[]⟩) ∧ Below x.heap.size x w') := fun a c x hs hc => by
              have h := L4.join_impl (q : Nat) a c ((pickL m sa mm cn st q).drop 1) x (by rw [hDl]; exact hs) (by omega) (fun s hs => hPz s (List.mem_of_mem_drop hs))
              rw [hDl] at h
              have e := MV.join_few m sa mm cn st
              rw [← HNM.out] at e
              rw [e] at h
              exact h
            have HSH : Hid (Shares wr (.slice (some ⟨gp, 0, none⟩) q cp1) (pickL m sa mm cn st q)) := by
              have := ho.shares
              exact this
            have HD1 : Hid (∀ x, Below wr.heap.size wr x → q = 1 → Shares x (.slice (some ⟨gp, 0, none⟩) (q - 1) (cp1 - 1)) ((pickL m sa mm cn st q).drop 1)) := fun x hx h1 =>
              ⟨_, _, by rw [hDl], by unfold maxLen; omega, fun h => by omega⟩
            have HD2 : Hid (∀ x, Below wr.heap.size wr x → Shares x (.slice (some ⟨gp, 2, none⟩) (q - 1) (cp1 - 1)) ((pickL m sa mm cn st q).drop 1)) := fun x hx => by
              obtain ⟨a', c', he, -, hc⟩ := HSH.out.below hx
              obtain ⟨b', off', hb', hbz, hcc⟩ := hc (by omega)
              simp only [Value.slice.injEq] at he
              rw [← he.1] at hb'
              simp only [Option.some.injEq, Addr.mk.injEq] at hb'
              obtain ⟨rfl, rfl, -⟩ := hb'
              refine ⟨_, _, by rw [hDl], by unfold maxLen; omega, fun _ => ⟨_, _, rfl, hbz, fun i s hs => ?_⟩⟩
              rw [List.getElem?_drop] at hs
              have := hcc _ _ hs
              rw [show 2 + i * 2 = 0 + (1 + i) * 2 by omega]
              exact this
            have HBW : Hid (Below W.heap.size W wr) := hbl
            have hq1 : (1 : Int) ≤ (q : Int) := by omega
            have hqn : 1 ≤ q := hn1
            clear ho hbl hzl hPz hPl hDl HCF
            go_wp2_with fail
            refine (HJ1.out _ HBW.out HSH.out).mono ?_
            rintro e x1 ⟨rfl, hb1⟩
            by_cases hc1 : cp1 = 1
            · have hq1' : q = 1 := by omega
              have hSX := HD1.out _ hb1 hq1'
              subst hq1'
              subst hc1
              have HJ3 : Hid (Calls Tryd.prog 13 #[.int .i64 1, .slice (some ⟨gp, 0, none⟩) 0 0] x1 fun e w' => e = .returned (.string ⟨#[]⟩) ∧ Below x1.heap.size x1 w') := HJ2.out _ _ _ hSX (by decide)
              have HB1 : Hid (Below w.heap.size w x1) := bel2 (bel2 BW.out HBW.out) hb1
              clear hSX hb1 HSH HD1 HD2 HJ1 HJ2
              go_wp2_with fail
              refine HJ3.out.mono ?_
              rintro e x2 ⟨rfl, hb2⟩
              have HF : Hid (Below w.heap.size w x2) := bel2 HB1.out hb2
              clear hb2
              go_wp2
              go_ret
              exact ⟨rfl, HF.out⟩
            · have hSX := HD2.out _ hb1
              have HJ3 : Hid (Calls Tryd.prog 13 #[.int .i64 (q : Nat), .slice (some ⟨gp, 2, none⟩) (q - 1) (cp1 - 1)] x1 fun e w' => e = .returned (.string ⟨#[]⟩) ∧ Below x1.heap.size x1 w') := HJ2.out _ _ _ hSX (by omega)
              have HB1 : Hid (Below w.heap.size w x1) := bel2 (bel2 BW.out HBW.out) hb1
              clear hSX hb1 HSH HD1 HD2 HJ1 HJ2
              go_wp2_with fail
              refine HJ3.out.mono ?_
              rintro e x2 ⟨rfl, hb2⟩
              have HF : Hid (Below w.heap.size w x2) := bel2 HB1.out hb2
              clear hb2
              go_wp2
              go_ret
              exact ⟨rfl, HF.out⟩
end Go.Proofs.YtianmmonkllhpaaDoor.YShare
