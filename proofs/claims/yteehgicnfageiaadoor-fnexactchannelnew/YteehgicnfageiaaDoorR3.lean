/-
  ChannelNew in the program.
-/
import Derived.Test.YteehgicnfageiaaDoorR2
namespace Go.Proofs.YteehgicnfageiaaDoor.R3
open Go.RowKit
open Go.Proofs.YteehgicnfageiaaDoor.C0 Go.Proofs.YteehgicnfageiaaDoor.HB
open Go.Proofs.YteehgicnfageiaaDoor.R0 Go.Proofs.YteehgicnfageiaaDoor.R1 Go.Proofs.YteehgicnfageiaaDoor.R2
open Go.Proofs.YteehgicnfageiaaDoor.K3 (bytesOf)
theorem run_min {P : Program} (at_ : Array TypeId) (ty : TypeId) (o t : ByteArray) (W : World) : (Builtin.min_ at_ ty #[.string o, .string t]).run P W = .ok (.string (if Go.Op.bytesLess o.toList t.toList || (o.toList == t.toList) then o else t)) W := by
  simp [Builtin.min_, Builtin.min2, Go.Op.stringOp, asBool]
theorem run_max {P : Program} (at_ : Array TypeId) (ty : TypeId) (o t : ByteArray) (W : World) : (Builtin.max_ at_ ty #[.string o, .string t]).run P W = .ok (.string (if !Go.Op.bytesLess o.toList t.toList then o else t)) W := by
  simp [Builtin.max_, Builtin.max2, Go.Op.stringOp, asBool]
set_option maxRecDepth 100000 in
set_option maxHeartbeats 3200000 in
theorem new_impl (s o t : ByteArray) (w : World) (hL : K2.Laid w) (hs : s.size ≤ maxLen) (ho : o.size ≤ maxLen) (ht : t.size ≤ maxLen) :
    Calls Tryd.prog 29 #[.string s, .string o, .string t] w fun e w' => e = .returned (hoV (newH s o t)) ∧ Below w.heap.size w w' := by
  unfold maxLen at hs ho ht
  have k0 := heap_alloc_new w (.cells #[.string ⟨#[]⟩, .int .i64 0, .int .i64 0, .string ⟨#[]⟩, .int .i64 0] 51)
  have B0 : Hid (Below w.heap.size w (w.alloc (.cells #[.string ⟨#[]⟩, .int .i64 0, .int .i64 0, .string ⟨#[]⟩, .int .i64 0] 51))) := albel w _
  by_cases hz : 8000 < s.size ∨ 8000 < o.size ∨ 8000 < t.size
  · rw [show newH s o t = ill 2 from if_pos hz, hoV_ill]
    have hz' : 8000 < s.size ∨ (¬ 8000 < s.size ∧ 8000 < o.size) ∨ (¬ 8000 < s.size ∧ ¬ 8000 < o.size ∧ 8000 < t.size) := by omega
    clear hz k0 hL
    rcases hz' with h | ⟨h1, h⟩ | ⟨h1, h2, h⟩
    · go_enter Tryd.func29, Tryd.ntmps29
      go_wp2
      exact bodyPost_ret (v := .agg #[.string ⟨#[]⟩, .int .i64 0, .int .i64 0, .string ⟨#[]⟩, .int .i64 2]) (by simp [results, Tryd.results29, go_sem]) rfl ⟨rfl, albel _ _⟩
    · go_enter Tryd.func29, Tryd.ntmps29
      go_wp2
      exact bodyPost_ret (v := .agg #[.string ⟨#[]⟩, .int .i64 0, .int .i64 0, .string ⟨#[]⟩, .int .i64 2]) (by simp [results, Tryd.results29, go_sem]) rfl ⟨rfl, albel _ _⟩
    · go_enter Tryd.func29, Tryd.ntmps29
      go_wp2
      exact bodyPost_ret (v := .agg #[.string ⟨#[]⟩, .int .i64 0, .int .i64 0, .string ⟨#[]⟩, .int .i64 2]) (by simp [results, Tryd.results29, go_sem]) rfl ⟨rfl, albel _ _⟩
  have h1 : ¬ 8000 < s.size := by omega
  have h2 : ¬ 8000 < o.size := by omega
  have h3 : ¬ 8000 < t.size := by omega
  have TS : ∀ W, Calls Tryd.prog 74 #[.string s] W fun e w' => e = .returned (.bool (okT s)) ∧ W = w' := fun W => text_impl s W
  have TO : ∀ W, Calls Tryd.prog 74 #[.string o] W fun e w' => e = .returned (.bool (okT o)) ∧ W = w' := fun W => text_impl o W
  have TT : ∀ W, Calls Tryd.prog 74 #[.string t] W fun e w' => e = .returned (.bool (okT t)) ∧ W = w' := fun W => text_impl t W
  have hN : newH s o t = if newOk s o t = true then ⟨⟨endsKey s o t, 0, 0⟩, ⟨#[]⟩, 0⟩ else ill 1 := if_neg hz
  rw [hN]
  unfold newOk
  cases g1 : okT s with
  | false =>
    rw [show (false && (okT o && (okT t && !alike o t))) = false from rfl, if_neg (by decide), hoV_ill]
    rw [g1] at TS
    go_enter Tryd.func29, Tryd.ntmps29
    go_wp2_with fail
    refine (TS _).mono ?_
    rintro e w1 ⟨rfl, rfl⟩
    go_wp2
    exact bodyPost_ret (v := .agg #[.string ⟨#[]⟩, .int .i64 0, .int .i64 0, .string ⟨#[]⟩, .int .i64 1]) (by simp [results, Tryd.results29, go_sem]) rfl ⟨rfl, albel _ _⟩
  | true =>
    cases g2 : okT o with
    | false =>
      rw [show (true && (false && (okT t && !alike o t))) = false from rfl, if_neg (by decide), hoV_ill]
      rw [g1] at TS
      rw [g2] at TO
      go_enter Tryd.func29, Tryd.ntmps29
      go_wp2_with fail
      refine (TS _).mono ?_
      rintro e w1 ⟨rfl, rfl⟩
      go_wp2_with fail
      refine (TO _).mono ?_
      rintro e w1 ⟨rfl, rfl⟩
      go_wp2
      exact bodyPost_ret (v := .agg #[.string ⟨#[]⟩, .int .i64 0, .int .i64 0, .string ⟨#[]⟩, .int .i64 1]) (by simp [results, Tryd.results29, go_sem]) rfl ⟨rfl, albel _ _⟩
    | true =>
      cases g3 : okT t with
      | false =>
        rw [show (true && (true && (false && !alike o t))) = false from rfl, if_neg (by decide), hoV_ill]
        rw [g1] at TS
        rw [g2] at TO
        rw [g3] at TT
        go_enter Tryd.func29, Tryd.ntmps29
        go_wp2_with fail
        refine (TS _).mono ?_
        rintro e w1 ⟨rfl, rfl⟩
        go_wp2_with fail
        refine (TO _).mono ?_
        rintro e w1 ⟨rfl, rfl⟩
        go_wp2_with fail
        refine (TT _).mono ?_
        rintro e w1 ⟨rfl, rfl⟩
        go_wp2
        exact bodyPost_ret (v := .agg #[.string ⟨#[]⟩, .int .i64 0, .int .i64 0, .string ⟨#[]⟩, .int .i64 1]) (by simp [results, Tryd.results29, go_sem]) rfl ⟨rfl, albel _ _⟩
      | true =>
        cases g4 : alike o t with
        | true =>
          rw [show (true && (true && (true && !true))) = false from rfl, if_neg (by decide), hoV_ill]
          rw [g1] at TS
          rw [g2] at TO
          rw [g3] at TT
          unfold alike at g4
          go_enter Tryd.func29, Tryd.ntmps29
          go_wp2_with fail
          refine (TS _).mono ?_
          rintro e w1 ⟨rfl, rfl⟩
          go_wp2_with fail
          refine (TO _).mono ?_
          rintro e w1 ⟨rfl, rfl⟩
          go_wp2_with fail
          refine (TT _).mono ?_
          rintro e w1 ⟨rfl, rfl⟩
          go_wp2
          exact bodyPost_ret (v := .agg #[.string ⟨#[]⟩, .int .i64 0, .int .i64 0, .string ⟨#[]⟩, .int .i64 1]) (by simp [results, Tryd.results29, go_sem]) rfl ⟨rfl, albel _ _⟩
        | false =>
          rw [show (true && (true && (true && !false))) = true from rfl, if_pos rfl]
          rw [g1] at TS
          rw [g2] at TO
          rw [g3] at TT
          unfold alike at g4
          have so : 1 ≤ o.size ∧ o.size ≤ 32 := of_decide_eq_true g2
          have st : 1 ≤ t.size ∧ t.size ≤ 32 := of_decide_eq_true g3
          have hfl := less_flip o.toList t.toList (fun e => by rw [e] at g4; simp at g4)
          have HL : Hid (K2.Laid w) := hL
          clear hL
          cases hl : less t o with
          | true =>
            rw [show endsKey s o t = lk s t o from if_pos hl]
            unfold less at hl
            rw [hl] at hfl
            have hfl2 : Go.Op.bytesLess o.toList t.toList = false := hfl
            clear hfl
            have HA : Hid (∀ W, Calls Tryd.prog 53 #[.string t] W fun e w' => e = .returned (.string (textT t)) ∧ Below W.heap.size W w') := fun W => C3.put_impl t W (by unfold maxLen; omega)
            have HB : Hid (∀ W, Calls Tryd.prog 53 #[.string o] W fun e w' => e = .returned (.string (textT o)) ∧ Below W.heap.size W w') := fun W => C3.put_impl o W (by unfold maxLen; omega)
            have hna := textT_few t (by omega)
            have hnb := textT_few o (by omega)
            have hj : (textT t ++ textT o).size ≤ 8000 := by rw [ByteArray.size_append]; omega
            have HJ : Hid (∀ g W, g < W.heap.size → W.cell? ⟨g, 0, none⟩ = some (.string (textT t)) → W.cell? ⟨g, 1, none⟩ = some (.string (textT o)) → Calls Tryd.prog 48 #[.slice (some ⟨g, 0, none⟩) 2 2] W fun e w' => e = .returned (.string (textT t ++ textT o)) ∧ Below W.heap.size W w') := fun g W hg q0 q1 => by
              have h := C2.joined_any g 0 2 2 [textT t, textT o] W rfl hg (by omega) (by simp [C2.total]; omega) (fun j hj => by match j, hj with | 0, _ => exact q0 | 1, _ => exact q1)
              rw [KA.cat_two] at h
              exact h
            have HM : Hid (∀ W, K2.Laid W → Calls Tryd.prog 75 #[.string s, .string (textT t ++ textT o)] W fun e w' => e = .returned (.string (lk s t o)) ∧ Below W.heap.size W w') := fun W hW => by
              have h := KA.macB_impl s (textT t ++ textT o) W (by unfold maxLen; omega) (by unfold maxLen; omega) hW
              rw [KA.macB_yes (by omega) (by omega)] at h
              exact h
            have HMIN : ∀ W, (Builtin.min_ #[9, 9] 9 #[.string o, .string t]).run Tryd.prog W = .ok (.string t) W := fun W => by rw [run_min, hfl2, g4]; rfl
            have HMAX : ∀ W, (Builtin.max_ #[9, 9] 9 #[.string o, .string t]).run Tryd.prog W = .ok (.string o) W := fun W => by rw [run_max, hfl2]; rfl
            generalize lk s t o = m at *
            clear hj so st g1 g2 g3 hna hnb
            generalize textT t ++ textT o = xy at *
            generalize textT t = x at *
            generalize textT o = y at *
            go_enter Tryd.func29, Tryd.ntmps29
            go_wp2_with fail
            refine (TS _).mono ?_
            rintro e w1 ⟨rfl, rfl⟩
            go_wp2_with fail
            refine (TO _).mono ?_
            rintro e w1 ⟨rfl, rfl⟩
            go_wp2_with fail
            refine (TT _).mono ?_
            rintro e w1 ⟨rfl, rfl⟩
            go_wp2_with fail
            refine (HA.out _).mono ?_
            rintro e v0 ⟨rfl, hb⟩
            have k1 := carry k0 hb
            have B1 : Hid (Below w.heap.size w v0) := bel2 B0.out hb
            clear hb k0
            go_wp2_with fail
            refine (HB.out _).mono ?_
            rintro e v1 ⟨rfl, hb⟩
            have k2 := carry k1 hb
            have B2 : Hid (Below w.heap.size w v1) := bel2 B1.out hb
            clear hb k1
            have lt2 := lt_some k2
            have a2 := heap_alloc_new v1 (.cells #[.string x, .string y] 9)
            have k3 := carryA k2 (.cells #[.string x, .string y] 9)
            have B3 : Hid (Below w.heap.size w (v1.alloc (.cells #[.string x, .string y] 9))) := bel2 B2.out (albel _ _)
            go_wp2_with fail
            refine (HJ.out v1.heap.size (v1.alloc (.cells #[.string x, .string y] 9)) (by rw [asz]; omega) (block_cell a2 0) (block_cell a2 1)).mono ?_
            rintro e v3 ⟨rfl, hb⟩
            have k4 := carry k3 hb
            have B4 : Hid (Below w.heap.size w v3) := bel2 B3.out hb
            clear hb k3 k2 a2 lt2
            go_wp2_with fail
            refine (HM.out _ (HL.out.below B4.out)).mono ?_
            rintro e v4 ⟨rfl, hb⟩
            have k5 := carry k4 hb
            have B5 : Hid (Below w.heap.size w v4) := bel2 B4.out hb
            clear hb k4
            obtain ⟨c0, c1, c2, c3, c4, cf⟩ := blk5f k5
            clear k5
            go_wp2
            exact bodyPost_ret (v := .agg #[.string m, .int .i64 0, .int .i64 0, .string ⟨#[]⟩, .int .i64 0]) (by simp [results, Tryd.results29, go_sem, c0, c1, c2, c3, c4]) rfl ⟨rfl, ((((((B5.out).setCell (Nat.le_refl _) _).setCell (Nat.le_refl _) _).setCell (Nat.le_refl _) _).setCell (Nat.le_refl _) _).setCell (Nat.le_refl _) _)⟩
          | false =>
            rw [show endsKey s o t = lk s o t from if_neg (by rw [hl]; decide)]
            unfold less at hl
            rw [hl] at hfl
            have hfl2 : Go.Op.bytesLess o.toList t.toList = true := hfl
            clear hfl
            have HA : Hid (∀ W, Calls Tryd.prog 53 #[.string o] W fun e w' => e = .returned (.string (textT o)) ∧ Below W.heap.size W w') := fun W => C3.put_impl o W (by unfold maxLen; omega)
            have HB : Hid (∀ W, Calls Tryd.prog 53 #[.string t] W fun e w' => e = .returned (.string (textT t)) ∧ Below W.heap.size W w') := fun W => C3.put_impl t W (by unfold maxLen; omega)
            have hna := textT_few o (by omega)
            have hnb := textT_few t (by omega)
            have hj : (textT o ++ textT t).size ≤ 8000 := by rw [ByteArray.size_append]; omega
            have HJ : Hid (∀ g W, g < W.heap.size → W.cell? ⟨g, 0, none⟩ = some (.string (textT o)) → W.cell? ⟨g, 1, none⟩ = some (.string (textT t)) → Calls Tryd.prog 48 #[.slice (some ⟨g, 0, none⟩) 2 2] W fun e w' => e = .returned (.string (textT o ++ textT t)) ∧ Below W.heap.size W w') := fun g W hg q0 q1 => by
              have h := C2.joined_any g 0 2 2 [textT o, textT t] W rfl hg (by omega) (by simp [C2.total]; omega) (fun j hj => by match j, hj with | 0, _ => exact q0 | 1, _ => exact q1)
              rw [KA.cat_two] at h
              exact h
            have HM : Hid (∀ W, K2.Laid W → Calls Tryd.prog 75 #[.string s, .string (textT o ++ textT t)] W fun e w' => e = .returned (.string (lk s o t)) ∧ Below W.heap.size W w') := fun W hW => by
              have h := KA.macB_impl s (textT o ++ textT t) W (by unfold maxLen; omega) (by unfold maxLen; omega) hW
              rw [KA.macB_yes (by omega) (by omega)] at h
              exact h
            have HMIN : ∀ W, (Builtin.min_ #[9, 9] 9 #[.string o, .string t]).run Tryd.prog W = .ok (.string o) W := fun W => by rw [run_min, hfl2, g4]; rfl
            have HMAX : ∀ W, (Builtin.max_ #[9, 9] 9 #[.string o, .string t]).run Tryd.prog W = .ok (.string t) W := fun W => by rw [run_max, hfl2]; rfl
            generalize lk s o t = m at *
            clear hj so st g1 g2 g3 hna hnb
            generalize textT o ++ textT t = xy at *
            generalize textT o = x at *
            generalize textT t = y at *
            go_enter Tryd.func29, Tryd.ntmps29
            go_wp2_with fail
            refine (TS _).mono ?_
            rintro e w1 ⟨rfl, rfl⟩
            go_wp2_with fail
            refine (TO _).mono ?_
            rintro e w1 ⟨rfl, rfl⟩
            go_wp2_with fail
            refine (TT _).mono ?_
            rintro e w1 ⟨rfl, rfl⟩
            go_wp2_with fail
            refine (HA.out _).mono ?_
            rintro e v0 ⟨rfl, hb⟩
            have k1 := carry k0 hb
            have B1 : Hid (Below w.heap.size w v0) := bel2 B0.out hb
            clear hb k0
            go_wp2_with fail
            refine (HB.out _).mono ?_
            rintro e v1 ⟨rfl, hb⟩
            have k2 := carry k1 hb
            have B2 : Hid (Below w.heap.size w v1) := bel2 B1.out hb
            clear hb k1
            have lt2 := lt_some k2
            have a2 := heap_alloc_new v1 (.cells #[.string x, .string y] 9)
            have k3 := carryA k2 (.cells #[.string x, .string y] 9)
            have B3 : Hid (Below w.heap.size w (v1.alloc (.cells #[.string x, .string y] 9))) := bel2 B2.out (albel _ _)
            go_wp2_with fail
            refine (HJ.out v1.heap.size (v1.alloc (.cells #[.string x, .string y] 9)) (by rw [asz]; omega) (block_cell a2 0) (block_cell a2 1)).mono ?_
            rintro e v3 ⟨rfl, hb⟩
            have k4 := carry k3 hb
            have B4 : Hid (Below w.heap.size w v3) := bel2 B3.out hb
            clear hb k3 k2 a2 lt2
            go_wp2_with fail
            refine (HM.out _ (HL.out.below B4.out)).mono ?_
            rintro e v4 ⟨rfl, hb⟩
            have k5 := carry k4 hb
            have B5 : Hid (Below w.heap.size w v4) := bel2 B4.out hb
            clear hb k4
            obtain ⟨c0, c1, c2, c3, c4, cf⟩ := blk5f k5
            clear k5
            go_wp2
            exact bodyPost_ret (v := .agg #[.string m, .int .i64 0, .int .i64 0, .string ⟨#[]⟩, .int .i64 0]) (by simp [results, Tryd.results29, go_sem, c0, c1, c2, c3, c4]) rfl ⟨rfl, ((((((B5.out).setCell (Nat.le_refl _) _).setCell (Nat.le_refl _) _).setCell (Nat.le_refl _) _).setCell (Nat.le_refl _) _).setCell (Nat.le_refl _) _)⟩
end Go.Proofs.YteehgicnfageiaaDoor.R3
