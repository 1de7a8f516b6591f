/-
  What GetText answers, in the specification and in the program.
-/
import Derived.Test.YteehgicnfageiaaDoorCI
import Derived.Test.YteehgicnfageiaaDoorCH
import Derived.Test.YteehgicnfageiaaDoorQB
import Derived.RegionTactic
import Derived.BigRegion
namespace Go.Proofs.YteehgicnfageiaaDoor.CK
open Go.RowKit
open Go.Proofs.YteehgicnfageiaaDoor.C0
open Go.Proofs.YteehgicnfageiaaDoor.CH

/-- The number, the place behind it, the code. -/
def tr (s : ByteArray) (a : Int) : Int × Nat × Nat :=
  if 8000 < s.size then (0, 0, 2) else if a < 0 then (0, 0, 1) else
    if (Mg.getFrom s a.toNat 10 0 0).2.2 = 0 then (Mg.unfoldI (Mg.getFrom s a.toNat 10 0 0).1, (Mg.getFrom s a.toNat 10 0 0).2.1, 0) else (0, 0, (Mg.getFrom s a.toNat 10 0 0).2.2)
theorem tr_num (s : ByteArray) (a : Int) : numOf s a = numOut (tr s a).1 (tr s a).2.1 (tr s a).2.2 := by
  unfold numOf tr outV
  split
  · rfl
  split
  · rfl
  split <;> rfl
def errOf (c : Nat) : Value := if c = 0 then .nilIface else CF.fault c
theorem tr_read (s : ByteArray) (a : Nat) (h : ¬ 8000 < s.size) : CN.outN (Mg.getFrom s a 10 0 0) = .tuple #[.int .i64 (tr s (a : Int)).1, .int .i64 (tr s (a : Int)).2.1, errOf (tr s (a : Int)).2.2] := by
  unfold CN.outN tr errOf
  rw [if_neg h, if_neg (show ¬ ((a : Int) < 0) by omega), Int.toNat_natCast]
  split
  · rfl
  · simp
theorem tr_neg (s : ByteArray) (a : Int) (h : ¬ 8000 < s.size) (ha : a < 0) : tr s a = (0, 0, 1) := by
  unfold tr; rw [if_neg h, if_pos ha]
theorem from_at (s : ByteArray) (a : Nat) : ∀ (f i u : Nat), (Mg.getFrom s a f i u).2.2 = 0 → (Mg.getFrom s a f i u).2.1 ≤ s.size
  | 0, _, _, h => by simp [Mg.getFrom] at h
  | f + 1, i, u, h => by
    unfold Mg.getFrom at h ⊢
    split at h <;> rename_i h1
    · rw [if_pos h1]
      split at h <;> rename_i h2
      · simp at h
      rw [if_neg h2]
      split at h <;> rename_i h3
      · rw [if_pos h3]
        split at h <;> rename_i h4
        · simp at h
        rw [if_neg h4]
        show a + i + 1 ≤ s.size
        omega
      · rw [if_neg h3]
        exact from_at s a f (i + 1) _ h
    · simp at h
theorem tr_at (s : ByteArray) (a : Int) (h : (tr s a).2.2 = 0) : (tr s a).2.1 ≤ s.size := by
  unfold tr at h ⊢
  split at h <;> rename_i h1
  · simp at h
  rw [if_neg h1]
  split at h <;> rename_i h2
  · simp at h
  rw [if_neg h2]
  split at h <;> rename_i h3
  · rw [if_pos h3]; exact from_at s a.toNat 10 0 0 h3
  · exact absurd h h3

theorem read_tr (s : ByteArray) (a : Int) (w : World) (hs : ¬ 8000 < s.size) (u1 : a ≤ 9223372036854775807) :
    Calls Tryd.prog 102 #[.string s, .int .i64 a] w fun e w' => e = .returned (.tuple #[.int .i64 (tr s a).1, .int .i64 (tr s a).2.1, errOf (tr s a).2.2]) ∧ w = w' := by
  by_cases h : a < 0
  · refine (CN.read_neg s a w h).mono ?_
    rintro e w' ⟨rfl, rfl⟩
    exact ⟨by rw [tr_neg s a hs h]; rfl, rfl⟩
  · obtain ⟨n, rfl⟩ := Int.eq_ofNat_of_zero_le (show 0 ≤ a by omega)
    refine (CN.read_any s n w (by omega) (by omega)).mono ?_
    rintro e w' ⟨rfl, rfl⟩
    exact ⟨by rw [tr_read s n hs], rfl⟩

def textOut (t : ByteArray) (a c : Int) : Value := .agg #[.string t, .int .i64 a, .int .i64 c]
/-- The text, the place behind it, the code. -/
def tx (s : ByteArray) (a : Int) : ByteArray × Int × Nat :=
  if (tr s a).2.2 ≠ 0 then (⟨#[]⟩, 0, (tr s a).2.2) else if (tr s a).1 < 0 ∨ 8000 < (tr s a).1 then (⟨#[]⟩, 0, 3)
    else if (s.size : Int) < (tr s a).2.1 + (tr s a).1 then (⟨#[]⟩, 0, 4) else (s.extract (tr s a).2.1 ((tr s a).2.1 + (tr s a).1.toNat), (tr s a).2.1 + (tr s a).1, 0)
def textOf (s : ByteArray) (a : Int) : Value := textOut (tx s a).1 (tx s a).2.1 (tx s a).2.2
section ways
variable {s : ByteArray} {a N : Int} {A c : Nat}
theorem tx_bad (h : tr s a = (N, A, c)) (hc : c ≠ 0) : tx s a = (⟨#[]⟩, 0, c) := by simp [tx, h, hc]
theorem tx_size (h : tr s a = (N, A, 0)) (hN : N < 0 ∨ 8000 < N) : tx s a = (⟨#[]⟩, 0, 3) := by simp [tx, h, hN]
theorem tx_short (h : tr s a = (N, A, 0)) (hN : ¬ (N < 0 ∨ 8000 < N)) (hA : (s.size : Int) < A + N) : tx s a = (⟨#[]⟩, 0, 4) := by simp [tx, h, hN, hA]
theorem tx_good (h : tr s a = (N, A, 0)) (hN : ¬ (N < 0 ∨ 8000 < N)) (hA : ¬ (s.size : Int) < A + N) : tx s a = (s.extract A (A + N.toNat), A + N, 0) := by simp [tx, h, hN, hA]
end ways
theorem cat_one (b : ByteArray) : (⟨(C2.cat [b]).toArray⟩ : ByteArray) = b := by simp [C2.cat]

set_option maxRecDepth 100000 in
theorem text_tr (s : ByteArray) (a : Int) (w : World) (hs : ¬ 8000 < s.size) (u1 : a ≤ 9223372036854775807) :
    Calls Tryd.prog 103 #[.string s, .int .i64 a] w fun e w' => e = .returned (.tuple #[.string (tx s a).1, .int .i64 (tx s a).2.1, errOf (tx s a).2.2]) ∧ Below w.heap.size w w' := by
  have hat := tr_at s a
  have hrd := fun wx => read_tr s a wx hs u1
  cases hT : tr s a with
  | mk N AC =>
  obtain ⟨A, c⟩ := AC
  rw [hT] at hat
  simp only [hT] at hrd
  by_cases hc : c = 0
  · subst hc
    have hA : A ≤ s.size := hat rfl
    by_cases hN : N < 0 ∨ 8000 < N
    · rw [tx_size hT hN]
      clear hT hat
      rcases hN with hN | hN
      all_goals
        go_enter Tryd.func103, Tryd.ntmps103
        go_wp2_with fail
        refine (hrd _).mono ?_
        rintro e w1 ⟨rfl, rfl⟩
        rw [show errOf 0 = Value.nilIface from rfl]
        clear hrd
        go_wp2
        go_ret3
        exact ⟨rfl, Below.refl _ _⟩
    · have hn0 : ¬ N < 0 := by omega
      have hn8 : ¬ 8000 < N := by omega
      have dn0 : decide (N < 0) = false := by simp; omega
      have dn8 : decide (8000 < N) = false := by simp; omega
      by_cases hB : (s.size : Int) < A + N
      · rw [tx_short hT hN hB]
        clear hT hat hN
        have hB2 : (s.size : Int) - A < N := by omega
        go_enter Tryd.func103, Tryd.ntmps103
        go_wp2_with fail
        refine (hrd _).mono ?_
        rintro e w1 ⟨rfl, rfl⟩
        rw [show errOf 0 = Value.nilIface from rfl]
        clear hrd
        go_wp2
        go_ret3
        exact ⟨rfl, Below.refl _ _⟩
      · rw [tx_good hT hN hB]
        clear hT hat hN
        have hB2 : ¬ (s.size : Int) - A < N := by omega
        obtain ⟨m, rfl⟩ := Int.eq_ofNat_of_zero_le (show 0 ≤ N by omega)
        go_enter Tryd.func103, Tryd.ntmps103
        go_wp2_with fail
        refine (hrd _).mono ?_
        rintro e w1 ⟨rfl, rfl⟩
        rw [show errOf 0 = Value.nilIface from rfl]
        clear hrd
        go_wp2_with fail
        have hxs : (s.extract A (A + m)).size ≤ 8000 := by simp; omega
        refine (C2.joined_any w.heap.size 0 1 1 [s.extract A (A + m)] _ rfl (by simp) (by omega) ?_ ?_).mono ?_
        · show (s.extract A (A + m)).size + 0 ≤ 1000000
          omega
        · intro j hj
          match j, hj with
          | 0, _ => go_simp
        rintro e w2 ⟨rfl, hb2⟩
        rw [cat_one]
        go_wp2
        go_ret3
        exact ⟨rfl, ((Below.refl _ _).alloc (Nat.le_refl _) _).trans (hb2.mono (by simp))⟩
  · rw [tx_bad hT hc]
    have he : errOf c = CF.fault c := by simp [errOf, hc]
    clear hT hat
    go_enter Tryd.func103, Tryd.ntmps103
    go_wp2_with fail
    refine (hrd _).mono ?_
    rintro e w1 ⟨rfl, rfl⟩
    clear hrd
    rw [he]
    unfold CF.fault
    go_wp2
    go_ret3
    exact ⟨by rw [he]; rfl, Below.refl _ _⟩


set_option maxRecDepth 100000 in
set_option maxHeartbeats 800000 in
theorem get_spec (s : ByteArray) (a : Int) (w : World) (hs : s.size ≤ maxLen) (l1 : -9223372036854775808 ≤ a) (u1 : a ≤ 9223372036854775807) :
    Calls Tryd.prog 93 #[.string s, .int .i64 a] w fun e w' => e = .returned (textOf s a) ∧ Below w.heap.size w w' := by
  have hat := tr_at s a
  have hnum := tr_num s a
  have hgn := fun wx => CI.get_spec s a wx hs l1 u1
  unfold maxLen at hs
  unfold textOf
  cases hT : tr s a with
  | mk N AC =>
  obtain ⟨A, c⟩ := AC
  rw [hT] at hat hnum
  simp only [hnum] at hgn
  clear hnum
  by_cases hc : c = 0
  · subst hc
    have hA : A ≤ s.size := hat rfl
    by_cases hN : N < 0 ∨ 8000 < N
    · rw [tx_size hT hN]
      clear hT hat
      rcases hN with hN | hN
      all_goals
        go_enter Tryd.func93, Tryd.ntmps93
        go_wp2_with fail
        refine (hgn _).mono ?_
        rintro e w1 ⟨rfl, hb1⟩
        unfold numOut
        clear hgn
        obtain ⟨q0, q1, q2, qf, hz⟩ := kept3 (hb1.mono (by simp))
        have hbel : Below w.heap.size w w1 := ((Below.refl _ _).alloc (Nat.le_refl _) _).trans (hb1.mono (by simp))
        clear hb1
        go_wp2
        exact bodyPost_ret (v := textOut ⟨#[]⟩ 0 3) (by simp [results, Tryd.results93, go_sem, textOut, q0, q1, q2, hz]) rfl ⟨rfl, by go_grown⟩
    · have hn0 : ¬ N < 0 := by omega
      have hn8 : ¬ 8000 < N := by omega
      have dn0 : decide (N < 0) = false := by simp; omega
      have dn8 : decide (8000 < N) = false := by simp; omega
      by_cases hB : (s.size : Int) < A + N
      · rw [tx_short hT hN hB]
        clear hT hat hN
        have hB2 : (s.size : Int) - N < A := by omega
        go_enter Tryd.func93, Tryd.ntmps93
        go_wp2_with fail
        refine (hgn _).mono ?_
        rintro e w1 ⟨rfl, hb1⟩
        unfold numOut
        clear hgn
        obtain ⟨q0, q1, q2, qf, hz⟩ := kept3 (hb1.mono (by simp))
        have hbel : Below w.heap.size w w1 := ((Below.refl _ _).alloc (Nat.le_refl _) _).trans (hb1.mono (by simp))
        clear hb1
        go_wp2
        exact bodyPost_ret (v := textOut ⟨#[]⟩ 0 4) (by simp [results, Tryd.results93, go_sem, textOut, q0, q1, q2, hz]) rfl ⟨rfl, by go_grown⟩
      · rw [tx_good hT hN hB]
        clear hT hat hN
        have hB2 : ¬ (s.size : Int) - N < A := by omega
        obtain ⟨m, rfl⟩ := Int.eq_ofNat_of_zero_le (show 0 ≤ N by omega)
        rw [Int.toNat_natCast]
        go_enter Tryd.func93, Tryd.ntmps93
        go_wp2_with fail
        refine (hgn _).mono ?_
        rintro e w1 ⟨rfl, hb1⟩
        unfold numOut
        clear hgn
        obtain ⟨q0, q1, q2, qf, hz⟩ := kept3 (hb1.mono (by simp))
        have hbel : Below w.heap.size w w1 := ((Below.refl _ _).alloc (Nat.le_refl _) _).trans (hb1.mono (by simp))
        clear hb1
        go_wp2
        have hwr : IntKind.i64.wrap ((A : Int) + (m : Int)) = (A : Int) + (m : Int) := by rw [IntKind.wrap_i64]; omega
        go_region
        go_wp2
        exact bodyPost_ret (v := textOut (s.extract A (A + m)) (A + m) 0) (by simp [results, Tryd.results93, go_sem, textOut, q0, q1, q2, hz]) rfl ⟨rfl, by go_grown⟩
  · rw [tx_bad hT hc]
    clear hT hat
    have hcb : ((c : Int) != 0) = true := by rw [bne_iff_ne]; omega
    go_enter Tryd.func93, Tryd.ntmps93
    go_wp2_with fail
    refine (hgn _).mono ?_
    rintro e w1 ⟨rfl, hb1⟩
    unfold numOut
    clear hgn
    obtain ⟨q0, q1, q2, qf, hz⟩ := kept3 (hb1.mono (by simp))
    have hbel : Below w.heap.size w w1 := ((Below.refl _ _).alloc (Nat.le_refl _) _).trans (hb1.mono (by simp))
    clear hb1
    go_wp2
    exact bodyPost_ret (v := textOut ⟨#[]⟩ 0 c) (by simp [results, Tryd.results93, go_sem, textOut, q0, q1, q2, hz]) rfl ⟨rfl, by go_grown⟩
end Go.Proofs.YteehgicnfageiaaDoor.CK
