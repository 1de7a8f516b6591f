/-
  The bytes of a card, in the specification.
-/
import Derived.Test.YteehgicnfageiaaDoorN0
import Derived.Test.YteehgicnfageiaaDoorQB
import Derived.Test.YteehgicnfageiaaDoorTK
import Derived.Deep.Cut
namespace Go.Proofs.YteehgicnfageiaaDoor.N2
open Go.RowKit
open Go.Proofs.YteehgicnfageiaaDoor.C0 Go.Proofs.YteehgicnfageiaaDoor.HB
open Go.Proofs.YteehgicnfageiaaDoor.N0 (Cd cdV cardB)

def numT (n : Int) : ByteArray := ⟨(Mb.putNum n).toArray⟩
def textT (s : ByteArray) : ByteArray := ⟨(C3.putText s).toArray⟩
/-- What is sealed of a card. -/
def cardT (c : Cd) : ByteArray := ((((numT c.id ++ numT c.ep) ++ textT c.pin) ++ numT c.tr) ++ numT c.ix) ++ textT c.dt
/-- The bytes of a card. -/
def cardBytes (c : Cd) : ByteArray := if cardB c = true then ⟨(C6.sealOf (cardT c)).toArray⟩ else ⟨#[]⟩
theorem size_mk (l : List UInt8) : (⟨l.toArray⟩ : ByteArray).size = l.length := by simp [ByteArray.size]
theorem numT_size (n : Int) : (numT n).size ≤ 10 := by unfold numT; rw [size_mk]; exact C3.putNum_len n
theorem textT_size (s : ByteArray) : (textT s).size ≤ s.size + 10 := by
  unfold textT C3.putText
  rw [size_mk]
  split
  · simp
  · rw [List.length_append]
    have := C3.putNum_len s.size
    have : s.data.toList.length = s.size := rfl
    omega
theorem cardT_size (c : Cd) (h : cardB c = true) : (cardT c).size ≤ 200 := by
  unfold cardB at h
  obtain ⟨_, h⟩ := Bool.and_eq_true_iff.1 h
  obtain ⟨_, h⟩ := Bool.and_eq_true_iff.1 h
  obtain ⟨h1, h⟩ := Bool.and_eq_true_iff.1 h
  obtain ⟨_, h⟩ := Bool.and_eq_true_iff.1 h
  have h1 := of_decide_eq_true h1
  unfold J1.shareR at h
  have h := of_decide_eq_true h
  unfold cardT
  simp only [ByteArray.size_append]
  have a1 := numT_size c.id
  have a2 := numT_size c.ep
  have a3 := textT_size c.pin
  have a4 := numT_size c.tr
  have a5 := numT_size c.ix
  have a6 := textT_size c.dt
  omega
set_option maxRecDepth 100000 in
set_option maxHeartbeats 3200000 in
theorem bytes_spec (c : Cd) (w : World) (hp : c.pin.size ≤ maxLen) (hd : c.dt.size ≤ maxLen) (hi : -9223372036854775808 ≤ c.id ∧ c.id ≤ 9223372036854775807) :
    Calls Tryd.prog 22 #[cdV c] w fun e w' => e = .returned (.string (cardBytes c)) ∧ Below w.heap.size w w' := by
  have hC := fun W => N0.card_spec c W hp hd
  have HD : Hid (cardBytes c = if cardB c = true then ⟨(C6.sealOf (cardT c)).toArray⟩ else ⟨#[]⟩) := rfl
  cases hb : cardB c with
  | false =>
    have HE : Hid (cardBytes c = ⟨#[]⟩) := by unfold Hid; rw [HD.out, hb]; rfl
    rw [HE.out]
    rw [hb] at hC
    unfold cdV at hC ⊢
    go_enter Tryd.func22, Tryd.ntmps22
    go_wp2_with fail
    refine (hC _).mono ?_
    rintro e w1 ⟨rfl, hb1⟩
    have HB : Hid (Below w.heap.size w w1) := bel2 (albel w _) hb1
    clear hb1
    go_wp2
    go_ret
    exact ⟨rfl, HB.out⟩
  | true =>
    have hsz := cardT_size c hb
    have HE : Hid (cardBytes c = ⟨(C6.sealOf (cardT c)).toArray⟩) := by unfold Hid; rw [HD.out, hb]; rfl
    rw [HE.out]
    have hok := hb
    unfold cardB at hok
    obtain ⟨o1, hok⟩ := Bool.and_eq_true_iff.1 hok
    obtain ⟨o2, hok⟩ := Bool.and_eq_true_iff.1 hok
    obtain ⟨o3, hok⟩ := Bool.and_eq_true_iff.1 hok
    obtain ⟨o4, o5⟩ := Bool.and_eq_true_iff.1 hok
    have o1 := of_decide_eq_true o1
    have o2 := of_decide_eq_true o2
    have o3 := of_decide_eq_true o3
    have o4 := of_decide_eq_true o4
    unfold J1.shareR at o5
    have o5 := of_decide_eq_true o5
    rw [hb] at hC
    obtain ⟨id, ep, pin, tr, ix, dt⟩ := c
    have HT : Hid (cardT ⟨id, ep, pin, tr, ix, dt⟩ = ((((numT id ++ numT ep) ++ textT pin) ++ numT tr) ++ numT ix) ++ textT dt) := rfl
    dsimp only at hp hd hi o1 o2 o3 o4 o5
    have a1 := numT_size id
    have a2 := numT_size ep
    have a3 := textT_size pin
    have a4 := numT_size tr
    have a5 := numT_size ix
    have a6 := textT_size dt
    have P1 : Hid (∀ W, Calls Tryd.prog 66 #[.int .i64 id] W fun e w' => e = .returned (.string (numT id)) ∧ Below W.heap.size W w') := fun W => C1.put_spec id W (by omega) (by omega)
    have P2 : Hid (∀ W, Calls Tryd.prog 66 #[.int .i64 ep] W fun e w' => e = .returned (.string (numT ep)) ∧ Below W.heap.size W w') := fun W => C1.put_spec ep W (by omega) (by omega)
    have P3 : Hid (∀ W, Calls Tryd.prog 67 #[.string pin] W fun e w' => e = .returned (.string (textT pin)) ∧ Below W.heap.size W w') := fun W => C3.put_spec pin W hp
    have P4 : Hid (∀ W, Calls Tryd.prog 66 #[.int .i64 tr] W fun e w' => e = .returned (.string (numT tr)) ∧ Below W.heap.size W w') := fun W => C1.put_spec tr W (by omega) (by omega)
    have P5 : Hid (∀ W, Calls Tryd.prog 66 #[.int .i64 ix] W fun e w' => e = .returned (.string (numT ix)) ∧ Below W.heap.size W w') := fun W => C1.put_spec ix W (by omega) (by omega)
    have P6 : Hid (∀ W, Calls Tryd.prog 67 #[.string dt] W fun e w' => e = .returned (.string (textT dt)) ∧ Below W.heap.size W w') := fun W => C3.put_spec dt W hd
    rw [HT.out] at hsz ⊢
    have PS : Hid (∀ W, Calls Tryd.prog 56 #[.string (((((numT id ++ numT ep) ++ textT pin) ++ numT tr) ++ numT ix) ++ textT dt)] W fun e w' => e = .returned (.string ⟨(C6.sealOf (((((numT id ++ numT ep) ++ textT pin) ++ numT tr) ++ numT ix) ++ textT dt)).toArray⟩) ∧ Below W.heap.size W w') := fun W => C6.seal_spec _ W (by unfold maxLen; omega)
    have k0 := heap_alloc_new w (.cells #[.int .i64 id, .int .i64 ep, .string pin, .int .i64 tr, .int .i64 ix, .string dt] 26)
    have B0 := albel w (.cells #[.int .i64 id, .int .i64 ep, .string pin, .int .i64 tr, .int .i64 ix, .string dt] 26)
    generalize numT id = p1 at *
    generalize numT ep = p2 at *
    generalize textT pin = p3 at *
    generalize numT tr = p4 at *
    generalize numT ix = p5 at *
    generalize textT dt = p6 at *
    have s1 : ¬ 9223372036854775807 < p1.size + p2.size := by omega
    have s2 : ¬ 9223372036854775807 < p1.size + p2.size + p3.size := by omega
    have s3 : ¬ 9223372036854775807 < p1.size + p2.size + p3.size + p4.size := by omega
    have s4 : ¬ 9223372036854775807 < p1.size + p2.size + p3.size + p4.size + p5.size := by omega
    have s5 : ¬ 9223372036854775807 < p1.size + p2.size + p3.size + p4.size + p5.size + p6.size := by omega
    unfold cdV at hC ⊢
    dsimp only at hC ⊢
    clear HD HE HT hb o1 o2 o3 o4 o5 hp hd hi
    go_enter Tryd.func22, Tryd.ntmps22
    go_wp2_with fail
    refine (hC _).mono ?_
    rintro e w1 ⟨rfl, hb1⟩
    have k1 := carry k0 hb1
    have B1 : Hid (Below w.heap.size w w1) := bel2 B0 hb1
    have KF : Hid (∀ x, Below w1.heap.size w1 x → x.cell? ⟨w.heap.size, 0, none⟩ = some (.int .i64 id) ∧ x.cell? ⟨w.heap.size, 1, none⟩ = some (.int .i64 ep) ∧ x.cell? ⟨w.heap.size, 2, none⟩ = some (.string pin) ∧ x.cell? ⟨w.heap.size, 3, none⟩ = some (.int .i64 tr) ∧ x.cell? ⟨w.heap.size, 4, none⟩ = some (.int .i64 ix) ∧ x.cell? ⟨w.heap.size, 5, none⟩ = some (.string dt)) := fun x hx =>
      ⟨block_cell (carry k1 hx) 0, block_cell (carry k1 hx) 1, block_cell (carry k1 hx) 2, block_cell (carry k1 hx) 3, block_cell (carry k1 hx) 4, block_cell (carry k1 hx) 5⟩
    clear k0 k1 B0 hb1 hC
    go_upto_region 3 with fail
    have hb : Below w1.heap.size w1 w1.drew := (Below.refl _ _).drew
    refine wp_region_held_drew (S := (fun x => x.cell? ⟨w.heap.size, 0, none⟩ = some (.int .i64 id) ∧ x.cell? ⟨w.heap.size, 1, none⟩ = some (.int .i64 ep) ∧ x.cell? ⟨w.heap.size, 2, none⟩ = some (.string pin) ∧ x.cell? ⟨w.heap.size, 3, none⟩ = some (.int .i64 tr) ∧ x.cell? ⟨w.heap.size, 4, none⟩ = some (.int .i64 ix) ∧ x.cell? ⟨w.heap.size, 5, none⟩ = some (.string dt))) (by kernel_rfl) (KF.out _ hb) (fun hHeld => ?_)
    refine TK.take_at 0 (some 6) (v := ?va0) rfl rfl (by kernel_rfl) (by kernel_rfl) (by kernel_rfl) (fun _ _ _ h => h) (Or.inl ⟨rfl, ?ha0⟩) hHeld ?ra0
    case ha0 => intro wq hSw; (try dsimp only at hSw); go_simp; all_goals (with_reducible rfl)
    try simp only [Act.put, List.setIfInBounds_toArray, List.set_cons_zero, List.set_cons_succ]
    refine TK.take_at 1 (some 7) (v := ?va1) rfl rfl (by kernel_rfl) (by kernel_rfl) (by kernel_rfl) (fun _ _ _ h => h) (Or.inl ⟨rfl, ?ha1⟩) hHeld ?ra1
    case ha1 => intro wq hSw; (try dsimp only at hSw); go_simp; all_goals (with_reducible rfl)
    try simp only [Act.put, List.setIfInBounds_toArray, List.set_cons_zero, List.set_cons_succ]
    refine TK.take_at 3 (some 9) (v := ?va3) rfl rfl (by kernel_rfl) (by kernel_rfl) (by kernel_rfl) (fun _ _ _ h => h) (Or.inl ⟨rfl, ?ha3⟩) hHeld ?ra3
    case ha3 => intro wq hSw; (try dsimp only at hSw); go_simp; all_goals (with_reducible rfl)
    try simp only [Act.put, List.setIfInBounds_toArray, List.set_cons_zero, List.set_cons_succ]
    refine TK.take_at 4 (some 10) (v := ?va4) rfl rfl (by kernel_rfl) (by kernel_rfl) (by kernel_rfl) (fun _ _ _ h => h) (Or.inl ⟨rfl, ?ha4⟩) hHeld ?ra4
    case ha4 => intro wq hSw; (try dsimp only at hSw); go_simp; all_goals (with_reducible rfl)
    try simp only [Act.put, List.setIfInBounds_toArray, List.set_cons_zero, List.set_cons_succ]
    refine TK.take_at 7 (some 13) (v := ?va7) rfl rfl (by kernel_rfl) (by kernel_rfl) (by kernel_rfl) (fun _ _ _ h => h) (Or.inl ⟨rfl, ?ha7⟩) hHeld ?ra7
    case ha7 => intro wq hSw; (try dsimp only at hSw); go_simp; all_goals (with_reducible rfl)
    try simp only [Act.put, List.setIfInBounds_toArray, List.set_cons_zero, List.set_cons_succ]
    refine TK.take_at 8 (some 14) (v := ?va8) rfl rfl (by kernel_rfl) (by kernel_rfl) (by kernel_rfl) (fun _ _ _ h => h) (Or.inl ⟨rfl, ?ha8⟩) hHeld ?ra8
    case ha8 => intro wq hSw; (try dsimp only at hSw); go_simp; all_goals (with_reducible rfl)
    try simp only [Act.put, List.setIfInBounds_toArray, List.set_cons_zero, List.set_cons_succ]
    refine TK.take_at 11 (some 17) (v := ?va11) rfl rfl (by kernel_rfl) (by kernel_rfl) (by kernel_rfl) (fun _ _ _ h => h) (Or.inl ⟨rfl, ?ha11⟩) hHeld ?ra11
    case ha11 => intro wq hSw; (try dsimp only at hSw); go_simp; all_goals (with_reducible rfl)
    try simp only [Act.put, List.setIfInBounds_toArray, List.set_cons_zero, List.set_cons_succ]
    refine TK.take_at 12 (some 18) (v := ?va12) rfl rfl (by kernel_rfl) (by kernel_rfl) (by kernel_rfl) (fun _ _ _ h => h) (Or.inl ⟨rfl, ?ha12⟩) hHeld ?ra12
    case ha12 => intro wq hSw; (try dsimp only at hSw); go_simp; all_goals (with_reducible rfl)
    try simp only [Act.put, List.setIfInBounds_toArray, List.set_cons_zero, List.set_cons_succ]
    refine TK.take_at 15 (some 21) (v := ?va15) rfl rfl (by kernel_rfl) (by kernel_rfl) (by kernel_rfl) (fun _ _ _ h => h) (Or.inl ⟨rfl, ?ha15⟩) hHeld ?ra15
    case ha15 => intro wq hSw; (try dsimp only at hSw); go_simp; all_goals (with_reducible rfl)
    try simp only [Act.put, List.setIfInBounds_toArray, List.set_cons_zero, List.set_cons_succ]
    refine TK.take_at 16 (some 22) (v := ?va16) rfl rfl (by kernel_rfl) (by kernel_rfl) (by kernel_rfl) (fun _ _ _ h => h) (Or.inl ⟨rfl, ?ha16⟩) hHeld ?ra16
    case ha16 => intro wq hSw; (try dsimp only at hSw); go_simp; all_goals (with_reducible rfl)
    try simp only [Act.put, List.setIfInBounds_toArray, List.set_cons_zero, List.set_cons_succ]
    refine TK.take_at 17 (some 23) (v := ?va17) rfl rfl (by kernel_rfl) (by kernel_rfl) (by kernel_rfl) (fun _ _ _ h => h) (Or.inl ⟨rfl, ?ha17⟩) hHeld ?ra17
    case ha17 => intro wq hSw; (try dsimp only at hSw); go_simp; all_goals (with_reducible rfl)
    try simp only [Act.put, List.setIfInBounds_toArray, List.set_cons_zero, List.set_cons_succ]
    refine TK.take_at 20 (some 26) (v := ?va20) rfl rfl (by kernel_rfl) (by kernel_rfl) (by kernel_rfl) (fun _ _ _ h => h) (Or.inl ⟨rfl, ?ha20⟩) hHeld ?ra20
    case ha20 => intro wq hSw; (try dsimp only at hSw); go_simp; all_goals (with_reducible rfl)
    try simp only [Act.put, List.setIfInBounds_toArray, List.set_cons_zero, List.set_cons_succ]
    refine TK.take_at 21 (some 27) (v := ?va21) rfl rfl (by kernel_rfl) (by kernel_rfl) (by kernel_rfl) (fun _ _ _ h => h) (Or.inl ⟨rfl, ?ha21⟩) hHeld ?ra21
    case ha21 => intro wq hSw; (try dsimp only at hSw); go_simp; all_goals (with_reducible rfl)
    try simp only [Act.put, List.setIfInBounds_toArray, List.set_cons_zero, List.set_cons_succ]
    refine TK.take_at 22 (some 28) (v := ?va22) rfl rfl (by kernel_rfl) (by kernel_rfl) (by kernel_rfl) (fun _ _ _ h => h) (Or.inl ⟨rfl, ?ha22⟩) hHeld ?ra22
    case ha22 => intro wq hSw; (try dsimp only at hSw); go_simp; all_goals (with_reducible rfl)
    try simp only [Act.put, List.setIfInBounds_toArray, List.set_cons_zero, List.set_cons_succ]
    refine wpAnyH_ready (rs := [2]) (by kernel_rfl) (by simp) ?_
    refine AllReadyH.cons rfl (fun K hK => ?_) AllReadyH.nil
    go_simp
    (go_at_call 66; refine (P1.out _).mono ?_; rintro e x1 ⟨rfl, hq⟩; have hb := bel2 hb hq; clear hq)
    try (go_wp2_with fail)
    refine hK.out _ _ ?_ (fun hHeld => ?_)
    · exact KF.out _ hb
    clear hK K
    try simp only [Act.put, List.setIfInBounds_toArray, List.set_cons_zero, List.set_cons_succ]
    refine wpAnyH_ready (rs := [5]) (by kernel_rfl) (by simp) ?_
    refine AllReadyH.cons rfl (fun K hK => ?_) AllReadyH.nil
    go_simp
    (go_at_call 66; refine (P2.out _).mono ?_; rintro e x2 ⟨rfl, hq⟩; have hb := bel2 hb hq; clear hq)
    try (go_wp2_with fail)
    refine hK.out _ _ ?_ (fun hHeld => ?_)
    · exact KF.out _ hb
    clear hK K
    try simp only [Act.put, List.setIfInBounds_toArray, List.set_cons_zero, List.set_cons_succ]
    refine TK.take_at 6 (some 12) (v := ?va6) rfl rfl (by kernel_rfl) (by kernel_rfl) (by kernel_rfl) (fun _ _ _ h => h) (Or.inl ⟨rfl, ?ha6⟩) hHeld ?ra6
    case ha6 => intro wq hSw; (try dsimp only at hSw); go_simp; all_goals (with_reducible rfl)
    try simp only [Act.put, List.setIfInBounds_toArray, List.set_cons_zero, List.set_cons_succ]
    refine wpAnyH_ready (rs := [9]) (by kernel_rfl) (by simp) ?_
    refine AllReadyH.cons rfl (fun K hK => ?_) AllReadyH.nil
    go_simp
    (go_at_call 67; refine (P3.out _).mono ?_; rintro e x3 ⟨rfl, hq⟩; have hb := bel2 hb hq; clear hq)
    try (go_wp2_with fail)
    refine hK.out _ _ ?_ (fun hHeld => ?_)
    · exact KF.out _ hb
    clear hK K
    try simp only [Act.put, List.setIfInBounds_toArray, List.set_cons_zero, List.set_cons_succ]
    refine TK.take_at 10 (some 16) (v := ?va10) rfl rfl (by kernel_rfl) (by kernel_rfl) (by kernel_rfl) (fun _ _ _ h => h) (Or.inl ⟨rfl, ?ha10⟩) hHeld ?ra10
    case ha10 => intro wq hSw; (try dsimp only at hSw); go_simp; all_goals (with_reducible rfl)
    try simp only [Act.put, List.setIfInBounds_toArray, List.set_cons_zero, List.set_cons_succ]
    refine wpAnyH_ready (rs := [13]) (by kernel_rfl) (by simp) ?_
    refine AllReadyH.cons rfl (fun K hK => ?_) AllReadyH.nil
    go_simp
    (go_at_call 66; refine (P4.out _).mono ?_; rintro e x4 ⟨rfl, hq⟩; have hb := bel2 hb hq; clear hq)
    try (go_wp2_with fail)
    refine hK.out _ _ ?_ (fun hHeld => ?_)
    · exact KF.out _ hb
    clear hK K
    try simp only [Act.put, List.setIfInBounds_toArray, List.set_cons_zero, List.set_cons_succ]
    refine TK.take_at 14 (some 20) (v := ?va14) rfl rfl (by kernel_rfl) (by kernel_rfl) (by kernel_rfl) (fun _ _ _ h => h) (Or.inl ⟨rfl, ?ha14⟩) hHeld ?ra14
    case ha14 => intro wq hSw; (try dsimp only at hSw); go_simp; all_goals (with_reducible rfl)
    try simp only [Act.put, List.setIfInBounds_toArray, List.set_cons_zero, List.set_cons_succ]
    refine wpAnyH_ready (rs := [18]) (by kernel_rfl) (by simp) ?_
    refine AllReadyH.cons rfl (fun K hK => ?_) AllReadyH.nil
    go_simp
    (go_at_call 66; refine (P5.out _).mono ?_; rintro e x5 ⟨rfl, hq⟩; have hb := bel2 hb hq; clear hq)
    try (go_wp2_with fail)
    refine hK.out _ _ ?_ (fun hHeld => ?_)
    · exact KF.out _ hb
    clear hK K
    try simp only [Act.put, List.setIfInBounds_toArray, List.set_cons_zero, List.set_cons_succ]
    refine TK.take_at 19 (some 25) (v := ?va19) rfl rfl (by kernel_rfl) (by kernel_rfl) (by kernel_rfl) (fun _ _ _ h => h) (Or.inl ⟨rfl, ?ha19⟩) hHeld ?ra19
    case ha19 => intro wq hSw; (try dsimp only at hSw); go_simp; all_goals (with_reducible rfl)
    try simp only [Act.put, List.setIfInBounds_toArray, List.set_cons_zero, List.set_cons_succ]
    refine wpAnyH_ready (rs := [23]) (by kernel_rfl) (by simp) ?_
    refine AllReadyH.cons rfl (fun K hK => ?_) AllReadyH.nil
    go_simp
    (go_at_call 67; refine (P6.out _).mono ?_; rintro e x6 ⟨rfl, hq⟩; have hb := bel2 hb hq; clear hq)
    try (go_wp2_with fail)
    refine hK.out _ _ ?_ (fun hHeld => ?_)
    · exact KF.out _ hb
    clear hK K
    try simp only [Act.put, List.setIfInBounds_toArray, List.set_cons_zero, List.set_cons_succ]
    refine TK.take_at 24 (some 30) (v := ?va24) rfl rfl (by kernel_rfl) (by kernel_rfl) (by kernel_rfl) (fun _ _ _ h => h) (Or.inl ⟨rfl, ?ha24⟩) hHeld ?ra24
    case ha24 => intro wq hSw; (try dsimp only at hSw); go_simp; all_goals (with_reducible rfl)
    try simp only [Act.put, List.setIfInBounds_toArray, List.set_cons_zero, List.set_cons_succ]
    refine wpAnyH_ready (rs := [25]) (by kernel_rfl) (by simp) ?_
    refine AllReadyH.cons rfl (fun K hK => ?_) AllReadyH.nil
    go_simp
    (go_at_call 56; refine (PS.out _).mono ?_; rintro e x7 ⟨rfl, hq⟩; have hb := bel2 hb hq; clear hq)
    try (go_wp2_with fail)
    refine hK.out _ _ ?_ (fun hHeld => ?_)
    · exact KF.out _ hb
    clear hK K
    try simp only [Act.put, List.setIfInBounds_toArray, List.set_cons_zero, List.set_cons_succ]
    refine TK.take_at 26 (some 2) (v := ?va26) rfl rfl (by kernel_rfl) (by kernel_rfl) (by kernel_rfl) (fun _ _ _ h => h) (Or.inl ⟨rfl, ?ha26⟩) hHeld ?ra26
    case ha26 => intro wq hSw; (try dsimp only at hSw); go_simp; all_goals (with_reducible rfl)
    try simp only [Act.put, List.setIfInBounds_toArray, List.set_cons_zero, List.set_cons_succ]
    refine wpAnyH_done (by kernel_rfl) ?_ _
    have HF : Hid (Below w.heap.size w x7) := bel2 B1.out hb
    clear hb hHeld
    go_wp2
    go_ret
    exact ⟨rfl, HF.out⟩
end Go.Proofs.YteehgicnfageiaaDoor.N2
