/-
  Numbers and texts read one after another, and a card of them, in the program.
-/
import Derived.Test.YteehgicnfageiaaDoorQ4
import Derived.Test.YteehgicnfageiaaDoorP0
import Derived.Deep.RegionHeld3
namespace Go.Proofs.YteehgicnfageiaaDoor.Q5
open Go.RowKit
open Go.Proofs.YteehgicnfageiaaDoor.C0 Go.Proofs.YteehgicnfageiaaDoor.HB
open Go.Proofs.YteehgicnfageiaaDoor.N0 (Cd cdV cardB pinB)
open Go.Proofs.YteehgicnfageiaaDoor.P1 (CO coV ill coV_ill)
open Go.Proofs.YteehgicnfageiaaDoor.PX
open Go.Proofs.YteehgicnfageiaaDoor.CK (tr tx errOf)
open Go.Proofs.YteehgicnfageiaaDoor.N2 (cardBytes)
open Go.Proofs.YteehgicnfageiaaDoor.N3 Go.Proofs.YteehgicnfageiaaDoor.N4 Go.Proofs.YteehgicnfageiaaDoor.Q3 Go.Proofs.YteehgicnfageiaaDoor.Q4

/-- The program's reader: its place, and the code of its fault. -/
def iN (s : ByteArray) (q : Int × Nat) : Int × (Int × Nat) := if q.2 = 0 then ((tr s q.1).1, (((tr s q.1).2.1 : Nat) : Int), (tr s q.1).2.2) else (0, q)
def iT (s : ByteArray) (q : Int × Nat) : ByteArray × (Int × Nat) := if q.2 = 0 then ((tx s q.1).1, (tx s q.1).2.1, (tx s q.1).2.2) else (⟨#[]⟩, q)
/-- It stands where the specification's does, as long as nothing was wrong. -/
def Rl (p : Int × Bool) (q : Int × Nat) : Prop := (p.2 = false ∧ q = (p.1, 0)) ∨ (p.2 = true ∧ ¬ q.2 = 0)
theorem tr_ill {s : ByteArray} {a : Int} (h : ¬ (tr s a).2.2 = 0) : (tr s a).1 = 0 := by
  unfold tr at h ⊢
  split
  · rfl
  split
  · rfl
  split
  · rename_i h1 h2 h3; rw [if_neg h1, if_neg h2, if_pos h3] at h; exact absurd rfl h
  · rfl
theorem tx_ill {s : ByteArray} {a : Int} (h : ¬ (tx s a).2.2 = 0) : (tx s a).1 = ⟨#[]⟩ := by
  obtain ⟨N, A, c, hT⟩ : ∃ N A c, tr s a = (N, A, c) := ⟨_, _, _, rfl⟩
  by_cases hc : c = 0
  · subst hc
    by_cases hN : N < 0 ∨ 8000 < N
    · rw [CK.tx_size hT hN]
    · by_cases hA : (s.size : Int) < A + N
      · rw [CK.tx_short hT hN hA]
      · rw [CK.tx_good hT hN hA] at h; exact absurd rfl h
  · rw [CK.tx_bad hT hc]
theorem Rl.num {s : ByteArray} {p : Int × Bool} {q : Int × Nat} (h : Rl p q) : (iN s q).1 = (rdNum s p).1 ∧ Rl (rdNum s p).2 (iN s q).2 := by
  obtain ⟨a, b⟩ := p
  rcases h with ⟨h1, h2⟩ | ⟨h1, h2⟩
  · dsimp only at h1 h2
    subst h1; subst h2
    unfold iN
    rw [if_pos rfl]
    dsimp only
    by_cases hc : (tr s a).2.2 = 0
    · rw [num_ok hc]; exact ⟨rfl, .inl ⟨rfl, by rw [hc]⟩⟩
    · rw [num_ill hc]; exact ⟨tr_ill hc, .inr ⟨rfl, hc⟩⟩
  · dsimp only at h1
    subst h1
    unfold iN
    rw [if_neg h2, num_bad]
    exact ⟨rfl, .inr ⟨rfl, h2⟩⟩
theorem Rl.text {s : ByteArray} {p : Int × Bool} {q : Int × Nat} (h : Rl p q) : (iT s q).1 = (rdText s p).1 ∧ Rl (rdText s p).2 (iT s q).2 := by
  obtain ⟨a, b⟩ := p
  rcases h with ⟨h1, h2⟩ | ⟨h1, h2⟩
  · dsimp only at h1 h2
    subst h1; subst h2
    unfold iT
    rw [if_pos rfl]
    dsimp only
    by_cases hc : (tx s a).2.2 = 0
    · rw [text_ok hc]; exact ⟨rfl, .inl ⟨rfl, by rw [hc]⟩⟩
    · rw [text_ill hc]; exact ⟨tx_ill hc, .inr ⟨rfl, hc⟩⟩
  · dsimp only at h1
    subst h1
    unfold iT
    rw [if_neg h2, text_bad]
    exact ⟨rfl, .inr ⟨rfl, h2⟩⟩
def i1 (s : ByteArray) := iN s (0, 0)
def i2 (s : ByteArray) := iN s (i1 s).2
def i3 (s : ByteArray) := iT s (i2 s).2
def i4 (s : ByteArray) := iN s (i3 s).2
def i5 (s : ByteArray) := iN s (i4 s).2
def i6 (s : ByteArray) := iT s (i5 s).2
theorem same6 (s : ByteArray) : (i1 s).1 = (r1 s).1 ∧ (i2 s).1 = (r2 s).1 ∧ (i3 s).1 = (r3 s).1 ∧ (i4 s).1 = (r4 s).1 ∧ (i5 s).1 = (r5 s).1 ∧ (i6 s).1 = (r6 s).1 ∧ Rl (r6 s).2 (i6 s).2 := by
  have h1 : (i1 s).1 = (r1 s).1 ∧ Rl (r1 s).2 (i1 s).2 := Rl.num (.inl ⟨rfl, rfl⟩)
  have h2 : (i2 s).1 = (r2 s).1 ∧ Rl (r2 s).2 (i2 s).2 := Rl.num h1.2
  have h3 : (i3 s).1 = (r3 s).1 ∧ Rl (r3 s).2 (i3 s).2 := Rl.text h2.2
  have h4 : (i4 s).1 = (r4 s).1 ∧ Rl (r4 s).2 (i4 s).2 := Rl.num h3.2
  have h5 : (i5 s).1 = (r5 s).1 ∧ Rl (r5 s).2 (i5 s).2 := Rl.num h4.2
  have h6 : (i6 s).1 = (r6 s).1 ∧ Rl (r6 s).2 (i6 s).2 := Rl.text h5.2
  exact ⟨h1.1, h2.1, h3.1, h4.1, h5.1, h6.1, h6.2⟩
def atOk (q : Int × Nat) : Prop := q.1 ≤ 9223372036854775807
theorem iN_at {s : ByteArray} {q : Int × Nat} (h : atOk q) (hs : s.size ≤ 8000) : atOk (iN s q).2 := by
  unfold iN atOk at *
  split
  · dsimp only
    by_cases hc : (tr s q.1).2.2 = 0
    · have := CK.tr_at s q.1 hc; omega
    · unfold tr at hc ⊢
      split
      · dsimp only; omega
      split
      · dsimp only; omega
      split
      · rename_i h1 h2 h3; rw [if_neg h1, if_neg h2, if_pos h3] at hc; exact absurd rfl hc
      · dsimp only; omega
  · exact h
theorem iT_at {s : ByteArray} {q : Int × Nat} (h : atOk q) (hs : s.size ≤ 8000) : atOk (iT s q).2 := by
  unfold iT atOk at *
  split
  · dsimp only
    obtain ⟨N, A, c, hT⟩ : ∃ N A c, tr s q.1 = (N, A, c) := ⟨_, _, _, rfl⟩
    by_cases hc : c = 0
    · subst hc
      by_cases hN : N < 0 ∨ 8000 < N
      · rw [CK.tx_size hT hN]; dsimp only; omega
      · by_cases hA : (s.size : Int) < A + N
        · rw [CK.tx_short hT hN hA]; dsimp only; omega
        · rw [CK.tx_good hT hN hA]; dsimp only; omega
    · rw [CK.tx_bad hT hc]; dsimp only; omega
  · exact h
/-- A reader's block, in the program. -/
def irB (s : ByteArray) (q : Int × Nat) : Obj := .cells #[.string s, .int .i64 q.1, errOf q.2] 82 (0, 0)
theorem err0 : errOf 0 = .nilIface := rfl
theorem errN {c : Nat} (h : ¬ c = 0) : errOf c = .iface 149 (.agg #[.int .i64 (c : Nat)]) := by unfold errOf; rw [if_neg h]; rfl
theorem err_ways (c : Nat) : errOf c = .nilIface ∨ errOf c = .iface 149 (.agg #[.int .i64 (c : Nat)]) := by
  by_cases h : c = 0
  · subst h; exact .inl rfl
  · exact .inr (errN h)
theorem grown_set {w x : World} {g i : Nat} {v : Value} (h : w.grownBy x (some g)) : w.grownBy (x.setCell ⟨g, i, none⟩ v) (some g) := by
  refine ⟨h.1, h.2, h.3, by rw [World.size_setCell]; exact h.4, fun k hk hne => ?_⟩
  rw [heap_setCell_other _ _ _ _ (fun e => hne (by rw [e]))]
  exact h.5 k hk hne
set_option maxRecDepth 100000 in
set_option maxHeartbeats 3200000 in
theorem num_impl (g : Nat) (s : ByteArray) (q : Int × Nat) (w : World) (k : w.heap[g]? = some (irB s q)) (hs : s.size ≤ 8000) (h1 : atOk q) :
    Calls Tryd.prog 89 #[.pointer (some ⟨g, 0, none⟩)] w fun e w' => e = .returned (.int .i64 (iN s q).1) ∧ w'.heap[g]? = some (irB s (iN s q).2) ∧ w.grownBy w' (some g) := by
  obtain ⟨a, c⟩ := q
  unfold atOk at h1
  dsimp only at h1
  have hlt := lt_some k
  by_cases hc : c = 0
  · subst hc
    have HR : Hid (iN s (a, 0) = ((tr s a).1, (((tr s a).2.1 : Nat) : Int), (tr s a).2.2)) := by unfold Hid iN; rw [if_pos rfl]
    have HG : Hid (∀ W, Calls Tryd.prog 102 #[.string s, .int .i64 a] W fun e w' => e = .returned (.tuple #[.int .i64 (tr s a).1, .int .i64 (tr s a).2.1, errOf (tr s a).2.2]) ∧ W = w') := fun W => CK.read_tr s a W (by omega) h1
    have KH : Hid _ := k
    unfold irB at k
    dsimp only at k
    rw [err0] at k
    obtain ⟨q0, q1, q2, qf⟩ := blk3f k
    have KG : Hid _ := k
    clear k
    rw [HR.out]
    dsimp only
    generalize (tr s a).1 = n at *
    generalize (tr s a).2.1 = A at *
    generalize (tr s a).2.2 = c at *
    rcases err_ways c with hee | hee
    · rw [hee] at HG
      go_enter Tryd.func89, Tryd.ntmps89
      go_wp2_with fail
      go_region_with (first
        | (go_at_call 102; refine (HG.out _).mono ?_; rintro e wn ⟨rfl, hwn⟩; have BN : Below w.heap.size w wn := (by rw [← hwn]; exact (Below.refl _ _).drew); clear hwn))
      all_goals
        have KW := carry KG.out BN
        have HF : Hid (((wn.setCell ⟨g, 1, none⟩ (.int .i64 A)).setCell ⟨g, 2, none⟩ .nilIface).heap[g]? = some (.cells #[.string s, .int .i64 A, .nilIface] 82 (0, 0))) := heap_set (heap_set KW (by simp)) (by simp)
        have HB : Hid (w.grownBy ((wn.setCell ⟨g, 1, none⟩ (.int .i64 A)).setCell ⟨g, 2, none⟩ .nilIface) (some g)) := grown_set (grown_set (PX.grown_of BN))
        obtain ⟨z0, z1, z2, zf⟩ := blk3f KW
        clear KW BN
        go_wp2
        go_ret
        exact ⟨rfl, by unfold irB; dsimp only; rw [hee]; exact HF.out, HB.out⟩
    · rw [hee] at HG
      go_enter Tryd.func89, Tryd.ntmps89
      go_wp2_with fail
      go_region_with (first
        | (go_at_call 102; refine (HG.out _).mono ?_; rintro e wn ⟨rfl, hwn⟩; have BN : Below w.heap.size w wn := (by rw [← hwn]; exact (Below.refl _ _).drew); clear hwn))
      all_goals
        have KW := carry KG.out BN
        have HF : Hid (((wn.setCell ⟨g, 1, none⟩ (.int .i64 A)).setCell ⟨g, 2, none⟩ (.iface 149 (.agg #[.int .i64 (c : Nat)]))).heap[g]? = some (.cells #[.string s, .int .i64 A, (.iface 149 (.agg #[.int .i64 (c : Nat)]))] 82 (0, 0))) := heap_set (heap_set KW (by simp)) (by simp)
        have HB : Hid (w.grownBy ((wn.setCell ⟨g, 1, none⟩ (.int .i64 A)).setCell ⟨g, 2, none⟩ (.iface 149 (.agg #[.int .i64 (c : Nat)]))) (some g)) := grown_set (grown_set (PX.grown_of BN))
        obtain ⟨z0, z1, z2, zf⟩ := blk3f KW
        clear KW BN
        go_wp2
        go_ret
        exact ⟨rfl, by unfold irB; dsimp only; rw [hee]; exact HF.out, HB.out⟩
  · have HR : iN s (a, c) = (0, (a, c)) := by unfold iN; rw [if_neg hc]
    rw [HR]
    have KH : Hid _ := k
    unfold irB at k
    dsimp only at k
    rw [errN hc] at k
    obtain ⟨q0, q1, q2, qf⟩ := blk3f k
    clear k
    go_enter Tryd.func89, Tryd.ntmps89
    go_wp2
    go_ret
    exact ⟨rfl, KH.out, PX.grown_of (Below.refl _ _)⟩
set_option maxRecDepth 100000 in
set_option maxHeartbeats 3200000 in
theorem text_impl (g : Nat) (s : ByteArray) (q : Int × Nat) (w : World) (k : w.heap[g]? = some (irB s q)) (hs : s.size ≤ 8000) (h1 : atOk q) :
    Calls Tryd.prog 90 #[.pointer (some ⟨g, 0, none⟩)] w fun e w' => e = .returned (.string (iT s q).1) ∧ w'.heap[g]? = some (irB s (iT s q).2) ∧ w.grownBy w' (some g) := by
  obtain ⟨a, c⟩ := q
  unfold atOk at h1
  dsimp only at h1
  have hlt := lt_some k
  by_cases hc : c = 0
  · subst hc
    have HR : Hid (iT s (a, 0) = ((tx s a).1, (tx s a).2.1, (tx s a).2.2)) := by unfold Hid iT; rw [if_pos rfl]
    have HG : Hid (∀ W, Calls Tryd.prog 103 #[.string s, .int .i64 a] W fun e w' => e = .returned (.tuple #[.string (tx s a).1, .int .i64 (tx s a).2.1, errOf (tx s a).2.2]) ∧ Below W.heap.size W w') := fun W => CK.text_tr s a W (by omega) h1
    have KH : Hid _ := k
    unfold irB at k
    dsimp only at k
    rw [err0] at k
    obtain ⟨q0, q1, q2, qf⟩ := blk3f k
    have KG : Hid _ := k
    clear k
    rw [HR.out]
    dsimp only
    generalize (tx s a).1 = n at *
    generalize (tx s a).2.1 = A at *
    generalize (tx s a).2.2 = c at *
    rcases err_ways c with hee | hee
    · rw [hee] at HG
      go_enter Tryd.func90, Tryd.ntmps90
      go_wp2_with fail
      go_region_with (first
        | (go_at_call 103; refine (HG.out _).mono ?_; rintro e wn ⟨rfl, hbn⟩; have BN : Below w.heap.size w wn := undrew hbn))
      all_goals
        have KW := carry KG.out BN
        have HF : Hid (((wn.setCell ⟨g, 1, none⟩ (.int .i64 A)).setCell ⟨g, 2, none⟩ .nilIface).heap[g]? = some (.cells #[.string s, .int .i64 A, .nilIface] 82 (0, 0))) := heap_set (heap_set KW (by simp)) (by simp)
        have HB : Hid (w.grownBy ((wn.setCell ⟨g, 1, none⟩ (.int .i64 A)).setCell ⟨g, 2, none⟩ .nilIface) (some g)) := grown_set (grown_set (PX.grown_of BN))
        obtain ⟨z0, z1, z2, zf⟩ := blk3f KW
        clear KW BN
        go_wp2
        go_ret
        exact ⟨rfl, by unfold irB; dsimp only; rw [hee]; exact HF.out, HB.out⟩
    · rw [hee] at HG
      go_enter Tryd.func90, Tryd.ntmps90
      go_wp2_with fail
      go_region_with (first
        | (go_at_call 103; refine (HG.out _).mono ?_; rintro e wn ⟨rfl, hbn⟩; have BN : Below w.heap.size w wn := undrew hbn))
      all_goals
        have KW := carry KG.out BN
        have HF : Hid (((wn.setCell ⟨g, 1, none⟩ (.int .i64 A)).setCell ⟨g, 2, none⟩ (.iface 149 (.agg #[.int .i64 (c : Nat)]))).heap[g]? = some (.cells #[.string s, .int .i64 A, (.iface 149 (.agg #[.int .i64 (c : Nat)]))] 82 (0, 0))) := heap_set (heap_set KW (by simp)) (by simp)
        have HB : Hid (w.grownBy ((wn.setCell ⟨g, 1, none⟩ (.int .i64 A)).setCell ⟨g, 2, none⟩ (.iface 149 (.agg #[.int .i64 (c : Nat)]))) (some g)) := grown_set (grown_set (PX.grown_of BN))
        obtain ⟨z0, z1, z2, zf⟩ := blk3f KW
        clear KW BN
        go_wp2
        go_ret
        exact ⟨rfl, by unfold irB; dsimp only; rw [hee]; exact HF.out, HB.out⟩
  · have HR : iT s (a, c) = (⟨#[]⟩, (a, c)) := by unfold iT; rw [if_neg hc]
    rw [HR]
    have KH : Hid _ := k
    unfold irB at k
    dsimp only at k
    rw [errN hc] at k
    obtain ⟨q0, q1, q2, qf⟩ := blk3f k
    clear k
    go_enter Tryd.func90, Tryd.ntmps90
    go_wp2
    go_ret
    exact ⟨rfl, KH.out, PX.grown_of (Below.refl _ _)⟩
set_option maxRecDepth 100000 in
theorem done_impl (g : Nat) (s : ByteArray) (q : Int × Nat) (w : World) (k : w.heap[g]? = some (irB s q)) :
    Calls Tryd.prog 59 #[.pointer (some ⟨g, 0, none⟩)] w fun e w' => e = .returned (.bool (decide (q.2 = 0 ∧ q.1 = (s.size : Int)))) ∧ Below w.heap.size w w' := by
  obtain ⟨a, c⟩ := q
  have hlt := lt_some k
  unfold irB at k
  dsimp only at k ⊢
  by_cases hc : c = 0
  · subst hc
    rw [err0] at k
    obtain ⟨q0, q1, q2, qf⟩ := blk3f k
    clear k
    by_cases ha : a = (s.size : Int)
    · rw [decide_eq_true ⟨rfl, ha⟩]
      have t0 : (a == (s.size : Int)) = true := by simp [ha]
      have t1 : decide (a = (s.size : Int)) = true := by simp [ha]
      clear ha
      go_enter Tryd.func59, Tryd.ntmps59
      go_wp2_with fail
      go_quiet (fail)
      go_wp2
      go_ret
      exact ⟨rfl, SI.drewN_below (Below.refl _ _) _⟩
    · rw [decide_eq_false (fun h => ha h.2)]
      have t0 : (a == (s.size : Int)) = false := by simp [ha]
      have t1 : decide (a = (s.size : Int)) = false := by simp [ha]
      clear ha
      go_enter Tryd.func59, Tryd.ntmps59
      go_wp2_with fail
      go_quiet (fail)
      go_wp2
      go_ret
      exact ⟨rfl, SI.drewN_below (Below.refl _ _) _⟩
  · rw [decide_eq_false (fun h => hc h.1)]
    rw [errN hc] at k
    obtain ⟨q0, q1, q2, qf⟩ := blk3f k
    clear k
    go_enter Tryd.func59, Tryd.ntmps59
    go_wp2_with fail
    go_quiet (fail)
    go_wp2
    go_ret
    exact ⟨rfl, SI.drewN_below (Below.refl _ _) _⟩
end Go.Proofs.YteehgicnfageiaaDoor.Q5
