/-
  The laws' own pick out of the given bytes, and their comparing of shares, at shares that are alike.
-/
import Derived.Test.YtianmmonkllhpaaDoorPM
import Derived.Test.YtianmmonkllhpaaDoorSI
namespace Go.Proofs.YtianmmonkllhpaaDoor.DB
open Go.RowKit
open Go.Proofs.YtianmmonkllhpaaDoor.C0 Go.Proofs.YtianmmonkllhpaaDoor.D0 Go.Proofs.YtianmmonkllhpaaDoor.HB
open Go.Proofs.YtianmmonkllhpaaDoor.SH (Sh Shares)
open Go.Proofs.YtianmmonkllhpaaDoor.SI (RelK drewN_below)

set_option maxRecDepth 100000 in
/-- One of the given bytes, below most; 0 without any. -/
theorem at_any (B n : Nat) (v : Value) (k : Nat) (most : Int) (w : World) (hc : IsCode B w v n) (hk : k ≤ 1000) (hm : most ≤ 9223372036854775807) :
    Calls Tryd.prog 21 #[v, .int .i64 k, .int .i64 most] w fun e w' => ∃ r : Nat, e = .returned (.int .i64 r) ∧ (r = 0 ∨ (r : Int) < most) ∧ w = w' := by
  obtain ⟨hn, a, cap, rfl, hcc⟩ := hc
  by_cases h1 : most ≤ 1
  · have hd : decide (most ≤ 1) = true := by simp [h1]
    go_enter Tryd.func21, Tryd.ntmps21
    go_wp2
    go_ret
    exact ⟨0, rfl, .inl rfl, rfl⟩
  · have hd : decide (most ≤ 1) = false := by simp; omega
    rcases hcc with rfl | ⟨b, off, rfl, hz⟩
    · go_enter Tryd.func21, Tryd.ntmps21
      go_wp2
      go_ret
      exact ⟨0, rfl, .inl rfl, rfl⟩
    · by_cases h0 : n = 0
      · subst h0
        go_enter Tryd.func21, Tryd.ntmps21
        go_wp2
        go_ret
        exact ⟨0, rfl, .inl rfl, rfl⟩
      · have h0b : ((n : Int) == 0) = false := by rw [beq_eq_false_iff_ne]; omega
        have hmod : k % n < n := Nat.mod_lt _ (by omega)
        obtain ⟨z, hz1, _, hz2⟩ := hz (k % n) hmod
        have hni : (0 : Int) < (n : Int) := by omega
        go_enter Tryd.func21, Tryd.ntmps21
        go_wp2
        go_ret
        have h3 : 0 ≤ (z : Int) % most := Int.emod_nonneg _ (by omega)
        have h4 : (z : Int) % most < most := Int.emod_lt_of_pos _ (by omega)
        exact ⟨((z : Int) % most).toNat, ret_int (by omega), .inr (by omega), rfl⟩
set_option maxRecDepth 100000 in
set_option maxHeartbeats 1600000 in
theorem lwShares_any (v u : Value) (l : List Sh) (w : World) (hv : Shares w v l) (hu : Shares w u l) :
    Calls Tryd.prog 11 #[v, u] w fun e w' => e = .returned (.bool true) ∧ Below w.heap.size w w' := by
  obtain ⟨a, cap, rfl, hl, hc⟩ := hv
  obtain ⟨a2, cap2, rfl, _, hc2⟩ := hu
  unfold maxLen at hl
  have H0 : Hid (RelK l.length w (.int .i64 0) w) := ⟨0, Nat.zero_le _, rfl, Below.refl _ _⟩
  go_enter Tryd.func11, Tryd.ntmps11
  go_wp2
  go_loopw [5] (fun i wr => RelK l.length w i wr) (fun i _ => l.length - (intOf i).toNat)
  case atStart => exact H0.out
  case round =>
    clear H0
    obtain ⟨k, hk, rfl, hbel⟩ := hrel
    by_cases hlt : k < l.length
    · obtain ⟨b, off, rfl, hbb, hcc⟩ := hc (by omega)
      obtain ⟨b2, off2, rfl, hbb2, hcc2⟩ := hc2 (by omega)
      obtain ⟨s, hs⟩ : ∃ s, l[k]? = some s := ⟨_, List.getElem?_eq_getElem hlt⟩
      obtain ⟨c0, c1⟩ := hcc k s hs
      obtain ⟨c2, c3⟩ := hcc2 k s hs
      rw [← hbel.cell (p := ⟨b, off + k * 2, none⟩) hbb] at c0
      rw [← hbel.cell (p := ⟨b, off + k * 2 + 1, none⟩) hbb] at c1
      rw [← hbel.cell (p := ⟨b2, off2 + k * 2, none⟩) hbb2] at c2
      rw [← hbel.cell (p := ⟨b2, off2 + k * 2 + 1, none⟩) hbb2] at c3
      have hlt' : (k : Int) < (l.length : Int) := by omega
      have HB : Hid (Below w.heap.size w wr) := hbel
      clear hs hcc hcc2 hbel
      go_wp2
      go_quiet (fail)
      go_wp2
      go_roundw
      case rel => exact ⟨k + 1, by omega, by go_num, drewN_below HB.out _⟩
      case measure => simp [intOf]; omega
    · go_wp2
      go_ret
      exact ⟨rfl, hbel⟩
end Go.Proofs.YtianmmonkllhpaaDoor.DB
