/-
  The laws' own measure, copies and comparing of rows of lines, and of a log.
-/
import Derived.Test.YtkpjdmmgdmbmnaaDoorA8
import Derived.Deep.RegionWith
namespace Go.Proofs.YtkpjdmmgdmbmnaaDoor.A9
open Go.RowKit
open Go.Proofs.YtkpjdmmgdmbmnaaDoor.C0 Go.Proofs.YtkpjdmmgdmbmnaaDoor.HB
open Go.Proofs.YtkpjdmmgdmbmnaaDoor.A0 Go.Proofs.YtkpjdmmgdmbmnaaDoor.A1 Go.Proofs.YtkpjdmmgdmbmnaaDoor.A4 Go.Proofs.YtkpjdmmgdmbmnaaDoor.A7
open Go.Proofs.YtkpjdmmgdmbmnaaDoor.A6 (RelK drewN_below add0)
open Go.Proofs.YtkpjdmmgdmbmnaaDoor.A8 (get_take_succ okS)
def okLs (l : List Ln) (left r : Int) : Prop := r < 0 ∨ (0 ≤ r ∧ r ≤ left ∧ (l.length : Int) ≤ left ∧ ∀ x ∈ l, (x.cards.length : Int) ≤ left)
def RelP (l : List Ln) (left : Int) (w : World) (q i : Value) (wr : World) : Prop :=
  ∃ (k : Nat) (r : Int), k ≤ l.length ∧ i = .int .i64 k ∧ q = .int .i64 r ∧ 0 ≤ r ∧ r ≤ left ∧ (∀ x ∈ l.take k, (x.cards.length : Int) ≤ left) ∧ Below w.heap.size w wr
theorem RelP.step {l : List Ln} {left r r' : Int} {w w1 : World} {k : Nat} (hlt : k < l.length) (hrs : ∀ x ∈ l.take k, (x.cards.length : Int) ≤ left) (hr : okLn (lAt l k) r r') (h0 : ¬ r' < 0) (hr1 : r ≤ left) (hb : Below w.heap.size w w1) :
    RelP l left w (.int .i64 r') (.int .i64 ((k : Int) + 1)) w1 := by
  unfold okLn at hr
  refine ⟨k + 1, r', by omega, by simp, rfl, by omega, by omega, ?_, hb⟩
  rw [get_take_succ l k _ (lAt_get hlt)]
  intro x hx
  rcases List.mem_append.1 hx with h | h
  · exact hrs x h
  · simp at h; subst h; omega
set_option maxRecDepth 100000 in
set_option maxHeartbeats 1600000 in
theorem szLines_any (v : Value) (l : List Ln) (left : Int) (w : World) (hv : LRow w v l) (hz : ∀ x ∈ l, LnW x) (h0 : 0 ≤ left) (h1 : left ≤ 1048576) :
    Calls Tryd.prog 63 #[v, .int .i64 left] w fun e w' => ∃ r, e = .returned (.int .i64 r) ∧ okLs l left r ∧ Below w.heap.size w w' := by
  obtain ⟨a, cap, rfl, hl, hc⟩ := hv
  unfold maxLen at hl
  by_cases hb : left < l.length
  · clear hc
    go_enter Tryd.func63, Tryd.ntmps63
    go_wp2
    go_ret
    exact ⟨_, rfl, .inl (by omega), Below.refl _ _⟩
  go_enter Tryd.func63, Tryd.ntmps63
  go_wp2
  go_loopw [1, 5] (fun q i wr => RelP l left w q i wr) (fun _ i _ => l.length - (intOf i).toNat)
  case atStart => exact ⟨0, _, Nat.zero_le _, rfl, rfl, by omega, by omega, by simp, Below.refl _ _⟩
  case round =>
    obtain ⟨k, r, hk, rfl, rfl, hr0, hr1, hrs, hbel⟩ := hrel
    by_cases hlt : k < l.length
    · obtain ⟨b, off, rfl, hbb, hcc⟩ := hc (by omega)
      obtain ⟨vc, hi, c0, c1, c2, c3⟩ := hcc k _ (lAt_get hlt)
      have hlw := hz _ (List.mem_of_getElem? (lAt_get hlt))
      have HS : Hid (Calls Tryd.prog 28 #[lnV (lAt l k) vc, .int .i64 r] wr fun e w' => ∃ r', e = .returned (.int .i64 r') ∧ okLn (lAt l k) r r' ∧ Below wr.heap.size wr w') := szLine_any _ vc r wr (hi.below hbel) hlw hr0 (by omega)
      have HN : Hid (∀ r' w1, okLn (lAt l k) r r' → ¬ r' < 0 → Below wr.heap.size wr w1 → RelP l left w (.int .i64 r') (.int .i64 ((k : Int) + 1)) w1) := fun r' w1 q q0 qb => RelP.step hlt hrs q q0 hr1 (bel2 hbel qb)
      rw [← hbel.cell (p := ⟨b, off + k * 4, none⟩) hbb] at c0
      rw [← hbel.cell (p := ⟨b, off + k * 4 + 1, none⟩) hbb] at c1
      rw [← hbel.cell (p := ⟨b, off + k * 4 + 2, none⟩) hbb] at c2
      rw [← hbel.cell (p := ⟨b, off + k * 4 + 3, none⟩) hbb] at c3
      have HB : Hid (Below w.heap.size w wr) := hbel
      clear hcc hi hlw hrs hbel hc
      unfold lnV at HS
      generalize lAt l k = x at *
      go_wp2_with fail
      refine HS.out.mono ?_
      rintro e w1 ⟨r', rfl, hr', hbel1⟩
      by_cases hn : r' < 0
      · have HE : Hid (Below w.heap.size w w1) := bel2 HB.out hbel1
        clear hbel1 hr'
        go_wp2
        go_ret
        exact ⟨_, rfl, .inl (by omega), HE.out⟩
      · have HE : Hid _ := HN.out r' w1 hr' (by omega) hbel1
        clear hbel1 hr' HN
        go_wp2
        go_roundw
        case rel => exact HE.out
        case measure => simp [intOf]; omega
    · have hkl : k = l.length := by omega
      subst hkl
      rw [List.take_of_length_le (Nat.le_refl _)] at hrs
      have HE : Hid (okLs l left r) := .inr ⟨by omega, by omega, by omega, hrs⟩
      clear hrs hc
      go_wp2
      go_ret
      exact ⟨_, rfl, HE.out, hbel⟩
set_option maxRecDepth 100000 in
set_option maxHeartbeats 3200000 in
theorem eqLines_any (v u : Value) (l : List Ln) (w : World) (hv : LRow w v l) (hu : LRow w u l) :
    Calls Tryd.prog 67 #[v, u] w fun e w' => e = .returned (.bool true) ∧ Below w.heap.size w w' := by
  obtain ⟨a, cap, rfl, hl, hc⟩ := hv
  obtain ⟨a2, cap2, rfl, _, hc2⟩ := hu
  unfold maxLen at hl
  have H0 : Hid (RelK l.length w (.int .i64 0) w) := ⟨0, Nat.zero_le _, rfl, Below.refl _ _⟩
  go_enter Tryd.func67, Tryd.ntmps67
  go_wp2
  go_loopw [5] (fun i wr => RelK l.length w i wr) (fun i _ => l.length - (intOf i).toNat)
  case atStart => exact H0.out
  case round =>
    clear H0
    obtain ⟨k, hk, rfl, hbel⟩ := hrel
    by_cases hlt : k < l.length
    · obtain ⟨b, off, rfl, hbb, hcc⟩ := hc (by omega)
      obtain ⟨b2, off2, rfl, hbb2, hcc2⟩ := hc2 (by omega)
      obtain ⟨vc, hi, c0, c1, c2, c3⟩ := hcc k _ (lAt_get hlt)
      obtain ⟨vd, hj, d0, d1, d2, d3⟩ := hcc2 k _ (lAt_get hlt)
      have HE : Hid (∀ W, Below w.heap.size w W → Calls Tryd.prog 31 #[lnV (lAt l k) vc, lnV (lAt l k) vd] W fun e w' => e = .returned (.bool true) ∧ Below W.heap.size W w') := fun W hW => eqLine_same _ vc vd W (hi.below hW) (hj.below hW)
      rw [← hbel.cell (p := ⟨b, off + k * 4, none⟩) hbb] at c0
      rw [← hbel.cell (p := ⟨b, off + k * 4 + 1, none⟩) hbb] at c1
      rw [← hbel.cell (p := ⟨b, off + k * 4 + 2, none⟩) hbb] at c2
      rw [← hbel.cell (p := ⟨b, off + k * 4 + 3, none⟩) hbb] at c3
      rw [← hbel.cell (p := ⟨b2, off2 + k * 4, none⟩) hbb2] at d0
      rw [← hbel.cell (p := ⟨b2, off2 + k * 4 + 1, none⟩) hbb2] at d1
      rw [← hbel.cell (p := ⟨b2, off2 + k * 4 + 2, none⟩) hbb2] at d2
      rw [← hbel.cell (p := ⟨b2, off2 + k * 4 + 3, none⟩) hbb2] at d3
      have hlt' : (k : Int) < (l.length : Int) := by omega
      have HB : Hid (Below w.heap.size w wr) := hbel
      clear hcc hcc2 hi hj hbel hc hc2
      unfold lnV at HE
      generalize lAt l k = x at *
      go_wp2
      go_region_with (go_at_call 31; refine (HE.out _ HB.out.drew).mono ?_; rintro e w1 ⟨rfl, hb1⟩)
      all_goals
        go_wp2
        go_roundw
        case rel => exact ⟨k + 1, by omega, by go_num, HB.out.drew.trans (hb1.mono HB.out.size)⟩
        case measure => simp [intOf]; omega
    · go_wp2
      go_ret
      exact ⟨rfl, hbel⟩
end Go.Proofs.YtkpjdmmgdmbmnaaDoor.A9
