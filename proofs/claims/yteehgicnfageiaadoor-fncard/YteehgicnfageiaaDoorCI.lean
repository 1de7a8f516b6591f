/-
  What the specification's GetNum answers.
-/
import Derived.Test.YteehgicnfageiaaDoorCH
namespace Go.Proofs.YteehgicnfageiaaDoor.CI
open Go.RowKit
open Go.Proofs.YteehgicnfageiaaDoor.C0
open Go.Proofs.YteehgicnfageiaaDoor.CH

theorem wrap_term (c i : Nat) (hi : i ≤ 9) (h9 : ¬ (i = 9 ∧ 1 < c)) : IntKind.u64.wrap ((c : Int) % 128 * 2 ^ (7 * i)) = ((c % 128 * 2 ^ (7 * i) : Nat) : Int) := by
  have ht := Mg.term_lt hi h9
  have e : ((c : Int) % 128 * 2 ^ (7 * i)) = ((c % 128 * 2 ^ (7 * i) : Nat) : Int) := by simp
  rw [e, IntKind.wrap_u64]; omega
theorem out_bad {R : Nat × Nat × Nat} {c : Nat} (hR : R = (0, 0, c)) (hc : c ≠ 0) : outV R = numOut 0 0 c := by rw [hR]; simp [outV, hc]
theorem out_good {R : Nat × Nat × Nat} {u b : Nat} (hR : R = (u, b, 0)) : outV R = numOut (Mg.unfoldI u) b 0 := by rw [hR]; rfl

set_option maxRecDepth 100000 in
set_option maxHeartbeats 1600000 in
theorem get_spec (s : ByteArray) (a : Int) (w : World) (hs : s.size ≤ maxLen) (l1 : -9223372036854775808 ≤ a) (u1 : a ≤ 9223372036854775807) :
    Calls Tryd.prog 92 #[.string s, .int .i64 a] w fun e w' => e = .returned (numOf s a) ∧ Below w.heap.size w w' := by
  unfold maxLen at hs
  by_cases h1 : 8000 < s.size
  · rw [numOf_big h1]
    go_enter Tryd.func92, Tryd.ntmps92
    go_wp2
    exact bodyPost_ret (v := numOut 0 0 2) (by simp [results, Tryd.results92, go_sem, numOut]) rfl ⟨rfl, by go_grown⟩
  by_cases h2 : a < 0
  · rw [numOf_neg h1 h2]
    go_enter Tryd.func92, Tryd.ntmps92
    go_wp2
    exact bodyPost_ret (v := numOut 0 0 1) (by simp [results, Tryd.results92, go_sem, numOut]) rfl ⟨rfl, by go_grown⟩
  obtain ⟨n, rfl⟩ := Int.eq_ofNat_of_zero_le (show 0 ≤ a by omega)
  rw [numOf_nat h1]
  have d1 : decide ((8000 : Int) < (s.size : Int)) = false := by simp; omega
  have d2 : decide ((n : Int) < 0) = false := by simp
  generalize hR : Mg.getFrom s n 10 0 0 = R
  have HR : Hid (R = Mg.getFrom s n 10 0 0) := hR.symm
  clear hR
  go_enter Tryd.func92, Tryd.ntmps92
  go_wp2
  go_loop [5, 6] (fun x i => ∃ (f k u : Nat), f + k = 10 ∧ u < 2 ^ (7 * k) ∧ (k = 0 ∨ n + k ≤ s.size) ∧ R = Mg.getFrom s n f k u ∧ x = .int .u64 u ∧ i = .int .i64 k) (fun _ i => 10 - (intOf i).toNat)
  case atStart => exact ⟨10, 0, 0, rfl, by omega, .inl rfl, HR.out, rfl, rfl⟩
  case round =>
    obtain ⟨f, k, u, hfk, hu, hnk, hRR, rfl, rfl⟩ := hrel
    clear HR
    by_cases hk : k < 10
    · obtain ⟨g, rfl⟩ : ∃ g, f = g + 1 := ⟨f - 1, by omega⟩
      by_cases hlt : n + k < s.size
      · have hcl := s[n + k].toNat_lt
        have hby : Mg.byteN s (n + k) = s[n + k].toNat := Mg.byteN_eq hlt
        have hin : (n : Int) < (s.size : Int) - (k : Int) := by omega
        by_cases h9 : k = 9 ∧ 1 < Mg.byteN s (n + k)
        · have HX : Hid (outV R = numOut 0 0 3) := out_bad (c := 3) (hRR.trans (Mg.from_wide hlt h9)) (by omega)
          rw [hby] at h9
          obtain ⟨rfl, hc1⟩ := h9
          clear hRR hby hfk hnk hu
          go_wp2
          exact bodyPost_ret (v := numOut 0 0 3) (by simp [results, Tryd.results92, go_sem, numOut]) rfl ⟨by rw [HX.out], by go_grown⟩
        · have h9' : ¬ (k = 9 ∧ 1 < s[n + k].toNat) := by rw [← hby]; exact h9
          have hwt := wrap_term s[n + k].toNat k (by omega) h9'
          have hsum := Mg.sum_lt (by omega) h9' hu
          have hstep : u + s[n + k].toNat % 128 * 2 ^ (7 * k) < 2 ^ (7 * (k + 1)) := Mg.step_lt hu
          by_cases hl : Mg.byteN s (n + k) < 128
          · have HL := hRR.trans (Mg.from_lt hlt h9 hl)
            rw [hby] at HL hl
            generalize s[n + k].toNat % 128 * 2 ^ (7 * k) = t at *
            clear hRR hby h9 hstep
            rcases (show (((k : Int) == 9) = true ∧ (s[n + k].toNat : Int) ≤ 1) ∨ ((k : Int) == 9) = false by
              by_cases e : k = 9
              · exact .inl ⟨by rw [beq_iff_eq]; omega, by omega⟩
              · exact .inr (by rw [beq_eq_false_iff_ne]; omega)) with ⟨hb9, hle⟩ | hb9
            all_goals
              clear h9'
              by_cases hz0 : s[n + k].toNat = 0 ∧ 0 < k
              · have HX : Hid (outV R = numOut 0 0 3) := out_bad (c := 3) (by rw [HL, if_pos hz0]) (by omega)
                have hzb : ((s[n + k].toNat : Int) == 0) = true := by rw [beq_iff_eq]; omega
                have hkp : (0 : Int) < (k : Int) := by omega
                clear HL hz0
                go_wp2
                exact bodyPost_ret (v := numOut 0 0 3) (by simp [results, Tryd.results92, go_sem, numOut]) rfl ⟨by rw [HX.out], by go_grown⟩
              · have HX : Hid (outV R = numOut (Mg.unfoldI (u + t)) ((n + k + 1 : Nat) : Int) 0) := out_good (by rw [HL, if_neg hz0])
                clear HL
                rcases (show ((s[n + k].toNat : Int) == 0) = false ∨ (((s[n + k].toNat : Int) == 0) = true ∧ (k : Int) ≤ 0) by
                  by_cases e : s[n + k].toNat = 0
                  · exact .inr ⟨by rw [beq_iff_eq]; omega, by omega⟩
                  · exact .inl (by rw [beq_eq_false_iff_ne]; omega)) with hzb | ⟨hzb, hkz⟩
                all_goals try (exfalso; simp at hb9 hkz; omega)
                all_goals
                  clear hz0
                  by_cases hod : (u + t) % 2 = 1
                  · have HU : Hid (Mg.unfoldI (u + t) = -(((u + t) / 2 : Nat) : Int) - 1) := Mg.unfold_odd hod
                    have hob : (((u : Int) + (t : Int)) % 2 == 1) = true := by rw [beq_iff_eq]; omega
                    clear hod
                    go_wp2
                    exact bodyPost_ret (v := numOut (-(((u : Int) + (t : Int)) / 2) - 1) ((n : Int) + (k : Int) + 1) 0) (by simp [results, Tryd.results92, go_sem, numOut]) rfl ⟨by rw [HX.out, HU.out]; rfl, by go_grown⟩
                  · have HU : Hid (Mg.unfoldI (u + t) = (((u + t) / 2 : Nat) : Int)) := Mg.unfold_even hod
                    have hob : (((u : Int) + (t : Int)) % 2 == 1) = false := by rw [beq_eq_false_iff_ne]; omega
                    clear hod
                    go_wp2
                    exact bodyPost_ret (v := numOut (((u : Int) + (t : Int)) / 2) ((n : Int) + (k : Int) + 1) 0) (by simp [results, Tryd.results92, go_sem, numOut]) rfl ⟨by rw [HX.out, HU.out]; rfl, by go_grown⟩
          · have HL : Hid (R = Mg.getFrom s n g (k + 1) (u + s[n + k].toNat % 128 * 2 ^ (7 * k))) := by
              have := hRR.trans (Mg.from_more hlt h9 hl); rw [hby] at this; exact this
            rw [hby] at hl
            generalize s[n + k].toNat % 128 * 2 ^ (7 * k) = t at *
            clear hRR hby h9
            have hb9 : ((k : Int) == 9) = false := by rw [beq_eq_false_iff_ne]; omega
            clear h9'
            go_wp2
            go_round
            case rel => exact ⟨g, k + 1, u + t, by omega, hstep, .inr (by omega), HL.out, by go_num, by go_num⟩
            case measure => simp [intOf]; omega
      · have HX : Hid (outV R = numOut 0 0 4) := out_bad (c := 4) (hRR.trans (Mg.from_short hlt)) (by omega)
        clear hRR
        have hge : (s.size : Int) - (k : Int) ≤ (n : Int) := by omega
        go_wp2
        exact bodyPost_ret (v := numOut 0 0 4) (by simp [results, Tryd.results92, go_sem, numOut]) rfl ⟨by rw [HX.out], by go_grown⟩
    · obtain rfl : f = 0 := by omega
      have HX : Hid (outV R = numOut 0 0 3) := out_bad (c := 3) hRR (by omega)
      clear hRR
      go_wp2
      exact bodyPost_ret (v := numOut 0 0 3) (by simp [results, Tryd.results92, go_sem, numOut]) rfl ⟨by rw [HX.out], by go_grown⟩
end Go.Proofs.YteehgicnfageiaaDoor.CI
