/-
  The program's reading of a head.
-/
import Derived.Test.YtfiabbfdnmldjaaGreatDoorU9
import Derived.Test.YtfiabbfdnmldjaaGreatDoorU6
namespace Go.Proofs.YtfiabbfdnmldjaaGreatDoor.V2
open Go.RowKit
open Go.Proofs.YtfiabbfdnmldjaaGreatDoor.C0 Go.Proofs.YtfiabbfdnmldjaaGreatDoor.S0 Go.Proofs.YtfiabbfdnmldjaaGreatDoor.S1 Go.Proofs.YtfiabbfdnmldjaaGreatDoor.S3 Go.Proofs.YtfiabbfdnmldjaaGreatDoor.O1 Go.Proofs.YtfiabbfdnmldjaaGreatDoor.T0 Go.Proofs.YtfiabbfdnmldjaaGreatDoor.T1 Go.Proofs.YtfiabbfdnmldjaaGreatDoor.T4 Go.Proofs.YtfiabbfdnmldjaaGreatDoor.T5 Go.Proofs.YtfiabbfdnmldjaaGreatDoor.U0 Go.Proofs.YtfiabbfdnmldjaaGreatDoor.U1 Go.Proofs.YtfiabbfdnmldjaaGreatDoor.U2 Go.Proofs.YtfiabbfdnmldjaaGreatDoor.U4 Go.Proofs.YtfiabbfdnmldjaaGreatDoor.U8 Go.Proofs.YtfiabbfdnmldjaaGreatDoor.U9
/-- A head may be so, whatever the disk. -/
def hrB (g s z : Int) : Bool := decide (0 ≤ g) && ((s == 0) || (s == 1)) && decide (0 ≤ z)
set_option maxRecDepth 100000 in
theorem right_any (g s z : Int) (w : World) : Calls Tryz.prog 99 #[.agg #[.int .i64 g, .int .i64 s, .int .i64 z]] w fun e w' => e = .returned (.bool (hrB g s z)) ∧ Below w.heap.size w w' := by
  by_cases hg : 0 ≤ g
  case neg =>
    have e : Hid (hrB g s z = false) := by simp [Hid, hrB, hg]
    go_enter Tryz.func99, Tryz.ntmps99
    go_wp2
    go_ret
    exact ⟨by rw [e.out]; rfl, albel _ _⟩
  by_cases h0 : s = 0
  · have h0' : (s == 0) = true := by simpa using h0
    by_cases hz : 0 ≤ z
    · have e : Hid (hrB g s z = true) := by simp [Hid, hrB, hg, h0, hz]
      clear h0
      go_enter Tryz.func99, Tryz.ntmps99
      go_wp2
      go_ret
      exact ⟨by rw [e.out]; rfl, albel _ _⟩
    · have e : Hid (hrB g s z = false) := by simp [Hid, hrB, hg, h0, hz]
      clear h0
      go_enter Tryz.func99, Tryz.ntmps99
      go_wp2
      go_ret
      exact ⟨by rw [e.out]; rfl, albel _ _⟩
  have h0' : (s == 0) = false := by simpa using h0
  by_cases h1 : s = 1
  · have h1' : (s == 1) = true := by simpa using h1
    by_cases hz : 0 ≤ z
    · have e : Hid (hrB g s z = true) := by simp [Hid, hrB, hg, h1, hz]
      clear h0 h1
      go_enter Tryz.func99, Tryz.ntmps99
      go_wp2
      go_ret
      exact ⟨by rw [e.out]; rfl, albel _ _⟩
    · have e : Hid (hrB g s z = false) := by simp [Hid, hrB, hg, h1, hz]
      clear h0 h1
      go_enter Tryz.func99, Tryz.ntmps99
      go_wp2
      go_ret
      exact ⟨by rw [e.out]; rfl, albel _ _⟩
  have h1' : (s == 1) = false := by simpa using h1
  have e : Hid (hrB g s z = false) := by simp [Hid, hrB, hg, h0, h1]
  clear h0 h1
  go_enter Tryz.func99, Tryz.ntmps99
  go_wp2
  go_ret
  exact ⟨by rw [e.out]; rfl, albel _ _⟩
/-- What stands in a text is the three numbers of a head. -/
def HeadAt (t : ByteArray) : Prop := (R1 t).2.2 = 0 ∧ (R2 t).2.2 = 0 ∧ (R3 t).2.2 = 0 ∧ aOf (R3 t) = t.size ∧ hrB (nOf (R1 t)) (nOf (R2 t)) (nOf (R3 t)) = true
theorem out_yes {R : Nat × Nat × Nat} (h : R.2.2 = 0) : CN.outN R = .tuple #[.int .i64 (nOf R), .int .i64 (aOf R), .nilIface] := by
  unfold CN.outN nOf aOf; rw [if_pos h, if_pos h, if_pos h]
theorem out_no {R : Nat × Nat × Nat} (h : ¬ R.2.2 = 0) : CN.outN R = .tuple #[.int .i64 0, .int .i64 0, .iface 104 (.agg #[.int .i64 (R.2.2 : Nat)])] := by
  unfold CN.outN; rw [if_neg h]; rfl
set_option maxRecDepth 100000 in
set_option maxHeartbeats 1600000 in
theorem head_any (a1 a3 a5 a9 : Addr) (t : ByteArray) (w : World) (hS : Sents w a1 a3 a5 a9) (ht : t.size ≤ 8000) :
    Calls Tryz.prog 71 #[.string t] w fun e w' => ((HeadAt t ∧ e = .returned (.tuple #[.agg #[.int .i64 (nOf (R1 t)), .int .i64 (nOf (R2 t)), .int .i64 (nOf (R3 t))], .nilIface])) ∨ (¬ HeadAt t ∧ e = .returned (.tuple #[.agg #[.int .i64 0, .int .i64 0, .int .i64 0], sent a3]))) ∧ Below w.heap.size w w' := by
  have hr : ∀ (a : Nat) W, a ≤ t.size → Calls Tryz.prog 98 #[.string t, .int .i64 (a : Nat)] W fun e w' => e = .returned (CN.outN (rr t a)) ∧ W = w' := fun a W h => CN.read_any t a W ht (by omega)
  have l1 := aOf_le t 0
  have l2 := aOf_le t (aOf (R1 t))
  have l3 := aOf_le t (aOf (R2 t))
  have hr0 := hr 0
  have c3 := hS.c3
  have g3 := lt_cell c3
  have c3a : ∀ o1 o2 : Obj, ((w.alloc o1).alloc o2).cell? ⟨1, 0, none⟩ = some (sent a3) := fun o1 o2 => ((hS.alloc o1).alloc o2).c3
  have c3b : ∀ o1 o2 o3 : Obj, (((w.alloc o1).alloc o2).alloc o3).cell? ⟨1, 0, none⟩ = some (sent a3) := fun o1 o2 o3 => (((hS.alloc o1).alloc o2).alloc o3).c3
  have HH : Hid (HeadAt t ↔ (R1 t).2.2 = 0 ∧ (R2 t).2.2 = 0 ∧ (R3 t).2.2 = 0 ∧ aOf (R3 t) = t.size ∧ hrB (nOf (R1 t)) (nOf (R2 t)) (nOf (R3 t)) = true) := Iff.rfl
  generalize HeadAt t = HP at HH ⊢
  by_cases h1 : (R1 t).2.2 = 0
  case neg =>
    have HN : Hid (¬ HP) := fun h => h1 (HH.out.1 h).1
    have E1 := out_no h1
    go_enter Tryz.func71, Tryz.ntmps71
    go_wp2_with fail
    refine wp_loop_rounds 1 ?_
    rw [rounds_succ]
    go_wp2_with fail
    refine (hr0 _ (by omega)).mono ?_
    rintro e w1 ⟨rfl, rfl⟩
    rw [E1]
    go_wp2
    go_region
    all_goals
      go_wp2
      exact bodyPost_ret (v := .tuple #[.agg #[.int .i64 0, .int .i64 0, .int .i64 0], sent a3]) (by simp [results, Tryz.results71, go_sem]) rfl ⟨.inr ⟨HN.out, rfl⟩, by go_grown⟩
  have E1 := out_yes h1
  have hr1 := hr (aOf (R1 t))
  by_cases h2 : (R2 t).2.2 = 0
  case neg =>
    have HN : Hid (¬ HP) := fun h => h2 (HH.out.1 h).2.1
    have E2 := out_no h2
    go_enter Tryz.func71, Tryz.ntmps71
    go_wp2_with fail
    refine wp_loop_rounds 2 ?_
    rw [rounds_succ]
    go_wp2_with fail
    refine (hr0 _ (by omega)).mono ?_
    rintro e w1 ⟨rfl, rfl⟩
    rw [E1]
    go_wp2_with fail
    rw [rounds_succ]
    go_wp2_with fail
    refine (hr1 _ (by omega)).mono ?_
    rintro e w1 ⟨rfl, rfl⟩
    rw [E2]
    go_wp2
    go_region
    all_goals
      go_wp2
      exact bodyPost_ret (v := .tuple #[.agg #[.int .i64 0, .int .i64 0, .int .i64 0], sent a3]) (by simp [results, Tryz.results71, go_sem]) rfl ⟨.inr ⟨HN.out, rfl⟩, by go_grown⟩
  have E2 := out_yes h2
  have hr2 := hr (aOf (R2 t))
  by_cases h3 : (R3 t).2.2 = 0
  case neg =>
    have HN : Hid (¬ HP) := fun h => h3 (HH.out.1 h).2.2.1
    have E3 := out_no h3
    go_enter Tryz.func71, Tryz.ntmps71
    go_wp2_with fail
    refine wp_loop_rounds 3 ?_
    rw [rounds_succ]
    go_wp2_with fail
    refine (hr0 _ (by omega)).mono ?_
    rintro e w1 ⟨rfl, rfl⟩
    rw [E1]
    go_wp2_with fail
    rw [rounds_succ]
    go_wp2_with fail
    refine (hr1 _ (by omega)).mono ?_
    rintro e w1 ⟨rfl, rfl⟩
    rw [E2]
    go_wp2_with fail
    rw [rounds_succ]
    go_wp2_with fail
    refine (hr2 _ (by omega)).mono ?_
    rintro e w1 ⟨rfl, rfl⟩
    rw [E3]
    go_wp2
    go_region
    all_goals
      go_wp2
      exact bodyPost_ret (v := .tuple #[.agg #[.int .i64 0, .int .i64 0, .int .i64 0], sent a3]) (by simp [results, Tryz.results71, go_sem]) rfl ⟨.inr ⟨HN.out, rfl⟩, by go_grown⟩
  have E3 := out_yes h3
  have HC : Hid ((R1 t).2.2 = 0 ∧ (R2 t).2.2 = 0 ∧ (R3 t).2.2 = 0) := ⟨h1, h2, h3⟩
  clear h1 h2 h3
  generalize nOf (R3 t) = m3 at *
  generalize nOf (R2 t) = m2 at *
  generalize nOf (R1 t) = m1 at *
  generalize aOf (R3 t) = p3 at *
  by_cases he : p3 = t.size
  case neg =>
    have HN : Hid (¬ HP) := fun h => he (HH.out.1 h).2.2.2.1
    have he' : ((p3 : Int) == (t.size : Int)) = false := by simp; omega
    have he2 : (p3 == t.size) = false := by simp; omega
    go_enter Tryz.func71, Tryz.ntmps71
    go_wp2_with fail
    refine wp_loop_rounds 4 ?_
    rw [rounds_succ]
    go_wp2_with fail
    refine (hr0 _ (by omega)).mono ?_
    rintro e w1 ⟨rfl, rfl⟩
    rw [E1]
    go_wp2_with fail
    rw [rounds_succ]
    go_wp2_with fail
    refine (hr1 _ (by omega)).mono ?_
    rintro e w1 ⟨rfl, rfl⟩
    rw [E2]
    go_wp2_with fail
    rw [rounds_succ]
    go_wp2_with fail
    refine (hr2 _ (by omega)).mono ?_
    rintro e w1 ⟨rfl, rfl⟩
    rw [E3]
    go_wp2_with fail
    rw [rounds_succ]
    go_wp2
    go_region
    all_goals
      go_wp2
      exact bodyPost_ret (v := .tuple #[.agg #[.int .i64 0, .int .i64 0, .int .i64 0], sent a3]) (by simp [results, Tryz.results71, go_sem]) rfl ⟨.inr ⟨HN.out, rfl⟩, by go_grown⟩
  subst he
  cases hb : hrB m1 m2 m3
  · have HN : Hid (¬ HP) := fun h => by have := (HH.out.1 h).2.2.2.2; rw [hb] at this; cases this
    go_enter Tryz.func71, Tryz.ntmps71
    go_wp2_with fail
    refine wp_loop_rounds 4 ?_
    rw [rounds_succ]
    go_wp2_with fail
    refine (hr0 _ (by omega)).mono ?_
    rintro e w1 ⟨rfl, rfl⟩
    rw [E1]
    go_wp2_with fail
    rw [rounds_succ]
    go_wp2_with fail
    refine (hr1 _ (by omega)).mono ?_
    rintro e w1 ⟨rfl, rfl⟩
    rw [E2]
    go_wp2_with fail
    rw [rounds_succ]
    go_wp2_with fail
    refine (hr2 _ (by omega)).mono ?_
    rintro e w1 ⟨rfl, rfl⟩
    rw [E3]
    go_wp2_with fail
    rw [rounds_succ]
    go_wp2_with fail
    refine (right_any m1 m2 m3 _).mono ?_
    rintro e w2 ⟨rfl, hb2⟩
    have B2 : Below w.heap.size w w2 := bel2 (bel2 (bel2 (albel _ _) (albel _ _)) (albel _ _)) hb2
    have kr := carry (carryA (carryA (heap_alloc_new w _) _) _) hb2
    obtain ⟨r0, r1, r2, rf, r9⟩ := blk3 kr
    have c32 := (hS.below B2).c3
    have c33 : ∀ u, (w2.setCell ⟨w.heap.size, 0, none⟩ u).cell? ⟨1, 0, none⟩ = some (sent a3) := fun u => by rw [World.cell?_of_block (w := w2) (Below.heap_setCell _ _ _ _ (by show 1 ≠ w.heap.size; omega))]; exact c32
    have HF : Hid (∀ u u' u'', Below w.heap.size w (((w2.setCell ⟨w.heap.size, 0, none⟩ u).setCell ⟨w.heap.size, 1, none⟩ u').setCell ⟨w.heap.size, 2, none⟩ u'').drew) := fun u u' u'' => (((B2.setCell (p := ⟨w.heap.size, 0, none⟩) (Nat.le_refl _) u).setCell (p := ⟨w.heap.size, 1, none⟩) (Nat.le_refl _) u').setCell (p := ⟨w.heap.size, 2, none⟩) (Nat.le_refl _) u'').drew
    rw [hb]
    clear hb2 kr
    go_wp2
    go_region
    all_goals
      go_wp2
      exact bodyPost_ret (v := .tuple #[.agg #[.int .i64 0, .int .i64 0, .int .i64 0], sent a3]) (by simp [results, Tryz.results71, go_sem, r0, r1, r2]) rfl ⟨.inr ⟨HN.out, rfl⟩, HF.out _ _ _⟩
  · have HN : Hid HP := HH.out.2 ⟨HC.out.1, HC.out.2.1, HC.out.2.2, rfl, hb⟩
    go_enter Tryz.func71, Tryz.ntmps71
    go_wp2_with fail
    refine wp_loop_rounds 4 ?_
    rw [rounds_succ]
    go_wp2_with fail
    refine (hr0 _ (by omega)).mono ?_
    rintro e w1 ⟨rfl, rfl⟩
    rw [E1]
    go_wp2_with fail
    rw [rounds_succ]
    go_wp2_with fail
    refine (hr1 _ (by omega)).mono ?_
    rintro e w1 ⟨rfl, rfl⟩
    rw [E2]
    go_wp2_with fail
    rw [rounds_succ]
    go_wp2_with fail
    refine (hr2 _ (by omega)).mono ?_
    rintro e w1 ⟨rfl, rfl⟩
    rw [E3]
    go_wp2_with fail
    rw [rounds_succ]
    go_wp2_with fail
    refine (right_any m1 m2 m3 _).mono ?_
    rintro e w2 ⟨rfl, hb2⟩
    have B2 : Below w.heap.size w w2 := bel2 (bel2 (bel2 (albel _ _) (albel _ _)) (albel _ _)) hb2
    have kr := carry (carryA (carryA (heap_alloc_new w _) _) _) hb2
    obtain ⟨r0, r1, r2, rf, r9⟩ := blk3 kr
    have kh := carry (heap_alloc_new ((w.alloc _).alloc _) _) hb2
    rw [asz, asz] at kh
    obtain ⟨q0, q1, q2, -, -⟩ := blk3 kh
    have HF : Hid (∀ u u' u'', Below w.heap.size w (((w2.setCell ⟨w.heap.size, 0, none⟩ u).setCell ⟨w.heap.size, 1, none⟩ u').setCell ⟨w.heap.size, 2, none⟩ u'')) := fun u u' u'' => (((B2.setCell (p := ⟨w.heap.size, 0, none⟩) (Nat.le_refl _) u).setCell (p := ⟨w.heap.size, 1, none⟩) (Nat.le_refl _) u').setCell (p := ⟨w.heap.size, 2, none⟩) (Nat.le_refl _) u'')
    rw [hb]
    clear hb2 kr kh
    go_wp2
    exact bodyPost_ret (v := .tuple #[.agg #[.int .i64 m1, .int .i64 m2, .int .i64 m3], .nilIface]) (by simp [results, Tryz.results71, go_sem, r0, r1, r2]) rfl ⟨.inl ⟨HN.out, rfl⟩, HF.out _ _ _⟩
end Go.Proofs.YtfiabbfdnmldjaaGreatDoor.V2
