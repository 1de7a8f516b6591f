/-
  Powers, and what lies between two numbers, in the program.
-/
import Derived.Test.YthmlkbgnooahlaaDoorC0
import Derived.Test.YthmlkbgnooahlaaDoorMF
import Derived.Test.YthmlkbgnooahlaaDoorG2
import Derived.Deep.RegionWith
namespace Go.Proofs.YthmlkbgnooahlaaDoor.H0
open Go.RowKit
open Go.Proofs.YthmlkbgnooahlaaDoor.C0
open Go.Proofs.YthmlkbgnooahlaaDoor.G2

theorem from_impl (lo n hi : Int) (w : World) :
    Calls Tryd.prog 35 #[.int .i64 lo, .int .i64 n, .int .i64 hi] w fun e w' => e = .returned (.bool (decide (lo ≤ n ∧ n ≤ hi))) ∧ w = w' := by
  by_cases h1 : lo ≤ n
  · by_cases h2 : n ≤ hi
    · rw [show decide (lo ≤ n ∧ n ≤ hi) = true by simp [h1, h2]]
      go_enter Tryd.func35, Tryd.ntmps35
      go_wp2
      go_ret
      exact ⟨rfl, rfl⟩
    · rw [show decide (lo ≤ n ∧ n ≤ hi) = false by simp [h1, h2]]
      go_enter Tryd.func35, Tryd.ntmps35
      go_wp2
      go_ret
      exact ⟨rfl, rfl⟩
  · rw [show decide (lo ≤ n ∧ n ≤ hi) = false by simp [h1]]
    go_enter Tryd.func35, Tryd.ntmps35
    go_wp2
    go_ret
    exact ⟨rfl, rfl⟩

/-- The function value that multiplies modulo the number in a cell. -/
def times (g : Nat) : Value := .func (.func 50) #[] #[.pointer (some ⟨g, 0, none⟩)]

set_option maxRecDepth 100000 in
theorem times_impl (a b m g : Nat) (w : World) (ha : a < m) (hb : b < m) (h1 : 1 ≤ m) (hm : m ≤ 1000000) (hg : w.cell? ⟨g, 0, none⟩ = some (.int .i64 m)) :
    Calls Tryd.prog 50 #[.int .i64 a, .int .i64 b, .pointer (some ⟨g, 0, none⟩)] w fun e w' => e = .returned (.int .i64 (a * b % m : Nat)) ∧ w = w' := by
  have hm0 : ((m : Int) == 0) = false := by simp; omega
  have hab := G0.mul_small ha hb hm
  go_enter Tryd.func50, Tryd.ntmps50
  go_wp2
  go_ret
  exact ⟨by go_num, rfl⟩

theorem pw_mod (a n m : Nat) : Sg.pw (a % m) n m = Sg.pw a n m := by unfold Sg.pw; rw [← Nat.pow_mod]

set_option maxRecDepth 100000 in
set_option maxHeartbeats 1600000 in
theorem power_impl (a n m g : Nat) (w : World) (hn : n ≤ 9223372036854775807) (h1 : 1 ≤ m) (hm : m ≤ 1000000) (hg : w.cell? ⟨g, 0, none⟩ = some (.int .i64 m)) :
    Calls Tryd.prog 36 #[.int .i64 (a % m : Nat), .int .i64 n, .int .i64 (1 % m : Nat), times g] w fun e w' => e = .returned (.int .i64 (Sg.pw a n m : Nat)) ∧ w = w' := by
  have h1l : 1 % m < m := Nat.mod_lt _ h1
  have hal : a % m < m := Nat.mod_lt _ h1
  have H0 : Hid ((1 % m) * (a % m) ^ n % m = Sg.pw a n m) := Sg.start a n m
  generalize Sg.pw a n m = res at *
  generalize hb : a % m = b at *
  generalize ho : 1 % m = o at *
  clear hb ho
  unfold times
  go_enter Tryd.func36, Tryd.ntmps36
  go_wp2
  go_loop [0, 1, 9] (fun a n o => G0.Rel res m a n o) (fun _ n _ => (intOf n).toNat)
  case atStart => exact ⟨b, n, o, rfl, rfl, rfl, hal, h1l, hn, H0.out⟩
  case round =>
    clear H0 h1l hal
    obtain ⟨a', n', o', rfl, rfl, rfl, hal, hol, hnl, hr⟩ := hrel
    have HR : Hid (o' * a' ^ n' % m = res) := hr
    clear hr
    by_cases h0 : 0 < n'
    · have aal : a' * a' % m < m := Nat.mod_lt _ h1
      have oal : o' * a' % m < m := Nat.mod_lt _ h1
      have h0' : (0 : Int) < (n' : Int) := by omega
      by_cases h2 : n' % 2 = 1
      · have HN : Hid ((o' * a' % m) * (a' * a' % m) ^ (n' / 2) % m = res) := by unfold Hid; rw [Sg.odd _ _ _ _ h2]; exact HR.out
        clear HR
        go_wp2_with fail
        refine (times_impl o' a' m g _ hol hal h1 hm hg).mono ?_
        rintro e w1 ⟨rfl, rfl⟩
        go_wp2_with fail
        refine (times_impl a' a' m g _ hal hal h1 hm hg).mono ?_
        rintro e w1 ⟨rfl, rfl⟩
        go_wp2
        go_round
        case rel => exact ⟨a' * a' % m, n' / 2, o' * a' % m, rfl, by go_num, rfl, aal, oal, by omega, HN.out⟩
        case measure => simp [intOf]; omega
      · have HN : Hid (o' * (a' * a' % m) ^ (n' / 2) % m = res) := by unfold Hid; rw [Sg.even _ _ _ _ (by omega)]; exact HR.out
        clear HR
        go_wp2_with fail
        refine (times_impl a' a' m g _ hal hal h1 hm hg).mono ?_
        rintro e w1 ⟨rfl, rfl⟩
        go_wp2
        go_round
        case rel => exact ⟨a' * a' % m, n' / 2, o', rfl, by go_num, rfl, aal, hol, by omega, HN.out⟩
        case measure => simp [intOf]; omega
    · obtain rfl : n' = 0 := by omega
      have HE : Hid (o' = res) := by have := HR.out; rw [Sg.stop _ _ _ hol] at this; exact this
      clear HR
      go_wp2
      go_ret
      exact ⟨ret_int (by rw [HE.out]), rfl⟩

set_option maxRecDepth 100000 in
theorem modulo_impl (m : Int) (w : World) :
    Calls Tryd.prog 37 #[.int .i64 m] w fun e w' => e = .returned (times w.heap.size) ∧ w' = w.alloc (.cells #[.int .i64 m] 2) := by
  go_enter Tryd.func37, Tryd.ntmps37
  go_wp2
  go_ret
  exact ⟨rfl, rfl⟩

theorem below_one {w w' : World} {o : Obj} (h : w' = w.alloc o) : Below w.heap.size w w' := by
  subst h; exact (Below.refl _ _).alloc (Nat.le_refl _) _
set_option maxRecDepth 100000 in
set_option maxHeartbeats 1600000 in
theorem powmod_impl (a n m : Int) (w : World) :
    Calls Tryd.prog 13 #[.int .i64 a, .int .i64 n, .int .i64 m] w fun e w' => e = .returned (.int .i64 (Sg.powR a n m : Nat)) ∧ Below w.heap.size w w' := by
  by_cases ha : 0 ≤ a ∧ a ≤ 1000000
  · by_cases hn : 0 ≤ n ∧ n ≤ 1000000000
    · by_cases hm : 1 ≤ m ∧ m ≤ 1000000
      · obtain ⟨a', rfl⟩ := Int.eq_ofNat_of_zero_le ha.1
        obtain ⟨n', rfl⟩ := Int.eq_ofNat_of_zero_le hn.1
        obtain ⟨m', rfl⟩ := Int.eq_ofNat_of_zero_le (show 0 ≤ m by omega)
        rw [powR_yes (by omega) (by omega) (by omega) (by omega)]
        have hm0 : ((m' : Int) == 0) = false := by simp; omega
        go_enter Tryd.func13, Tryd.ntmps13
        go_wp2_with fail
        refine (from_impl 0 _ 1000000 _).mono ?_
        rintro e w1 ⟨rfl, rfl⟩
        rw [yes2 ha]
        go_wp2_with fail
        refine (from_impl 0 _ 1000000000 _).mono ?_
        rintro e w1 ⟨rfl, rfl⟩
        rw [yes2 hn]
        go_wp2_with fail
        refine (from_impl 1 _ 1000000 _).mono ?_
        rintro e w1 ⟨rfl, rfl⟩
        rw [yes2 hm]
        go_wp2_with fail
        go_region_with (first
          | (go_at_call 37; refine (modulo_impl _ _).mono ?_; rintro e w1 ⟨rfl, rfl⟩)
          | (go_at_call 36; refine (power_impl a' n' m' _ _ (by omega) (by omega) (by omega) (by simp [go_sem])).mono ?_; rintro e w2 ⟨rfl, rfl⟩))
        all_goals
          go_wp2
          go_ret
          exact ⟨rfl, by first | exact (Below.refl _ _).drew.alloc (Nat.le_refl _) _ | exact ((Below.refl _ _).alloc (Nat.le_refl _) _).drew⟩
      · rw [powR_no (by omega)]
        go_enter Tryd.func13, Tryd.ntmps13
        go_wp2_with fail
        refine (from_impl 0 _ 1000000 _).mono ?_
        rintro e w1 ⟨rfl, rfl⟩
        rw [yes2 ha]
        go_wp2_with fail
        refine (from_impl 0 _ 1000000000 _).mono ?_
        rintro e w1 ⟨rfl, rfl⟩
        rw [yes2 hn]
        go_wp2_with fail
        refine (from_impl 1 _ 1000000 _).mono ?_
        rintro e w1 ⟨rfl, rfl⟩
        rw [no2 hm]
        go_wp2
        go_ret
        exact ⟨rfl, Below.refl _ _⟩
    · rw [powR_no (by omega)]
      go_enter Tryd.func13, Tryd.ntmps13
      go_wp2_with fail
      refine (from_impl 0 _ 1000000 _).mono ?_
      rintro e w1 ⟨rfl, rfl⟩
      rw [yes2 ha]
      go_wp2_with fail
      refine (from_impl 0 _ 1000000000 _).mono ?_
      rintro e w1 ⟨rfl, rfl⟩
      rw [no2 hn]
      go_wp2
      go_ret
      exact ⟨rfl, Below.refl _ _⟩
  · rw [powR_no (by omega)]
    go_enter Tryd.func13, Tryd.ntmps13
    go_wp2_with fail
    refine (from_impl 0 _ 1000000 _).mono ?_
    rintro e w1 ⟨rfl, rfl⟩
    rw [no2 ha]
    go_wp2
    go_ret
    exact ⟨rfl, Below.refl _ _⟩

theorem secret_impl (x : Int) (w : World) :
    Calls Tryd.prog 30 #[.int .i64 x] w fun e w' => e = .returned (.bool (decide (1 ≤ x ∧ x ≤ 5002))) ∧ w = w' := by
  go_enter Tryd.func30, Tryd.ntmps30
  go_wp2_with fail
  refine (from_impl 1 _ 5002 _).mono ?_
  rintro e w1 ⟨rfl, rfl⟩
  go_wp2
  go_ret
  rw [Bool.decide_and]
  exact ⟨rfl, rfl⟩

theorem powR_pub {x : Int} (h : 1 ≤ x ∧ x ≤ 5002) : Sg.powR 4 x 10007 = Sg.pubR x := by
  obtain ⟨y, rfl⟩ := Int.eq_ofNat_of_zero_le (show 0 ≤ x by omega)
  rw [pubR_yes (by omega) (by omega)]
  exact powR_yes (a := 4) (m := 10007) (by omega) (by omega) (by omega) (by omega)
set_option maxRecDepth 100000 in
theorem public_impl (x : Int) (w : World) :
    Calls Tryd.prog 20 #[.int .i64 x] w fun e w' => e = .returned (.int .i64 (Sg.pubR x : Nat)) ∧ Below w.heap.size w w' := by
  by_cases hx : 1 ≤ x ∧ x ≤ 5002
  · have HP : Hid (Sg.powR 4 x 10007 = Sg.pubR x) := powR_pub hx
    go_enter Tryd.func20, Tryd.ntmps20
    go_wp2_with fail
    refine (secret_impl _ _).mono ?_
    rintro e w1 ⟨rfl, rfl⟩
    rw [yes2 hx]
    go_wp2_with fail
    refine (powmod_impl 4 x 10007 _).mono ?_
    rintro e w1 ⟨rfl, hb1⟩
    rw [HP.out]
    go_wp2
    go_ret
    exact ⟨rfl, hb1⟩
  · rw [pubR_no hx]
    go_enter Tryd.func20, Tryd.ntmps20
    go_wp2_with fail
    refine (secret_impl _ _).mono ?_
    rintro e w1 ⟨rfl, rfl⟩
    rw [no2 hx]
    go_wp2
    go_ret
    exact ⟨rfl, Below.refl _ _⟩
end Go.Proofs.YthmlkbgnooahlaaDoor.H0
