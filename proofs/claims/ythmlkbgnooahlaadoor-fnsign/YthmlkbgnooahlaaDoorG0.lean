/-
  Powers modulo a number, in the specification.
-/
import Derived.Test.YthmlkbgnooahlaaDoorC0
import Derived.Test.YthmlkbgnooahlaaDoorMF
namespace Go.Proofs.YthmlkbgnooahlaaDoor.G0
open Go.RowKit
open Go.Proofs.YthmlkbgnooahlaaDoor.C0

theorem is_spec (n lo hi : Int) (w : World) :
    Calls Tryd.prog 38 #[.int .i64 n, .int .i64 lo, .int .i64 hi] w fun e w' => e = .returned (.bool (decide (lo ≤ n ∧ n ≤ hi))) ∧ w = w' := by
  by_cases h1 : lo ≤ n
  · by_cases h2 : n ≤ hi
    · rw [show decide (lo ≤ n ∧ n ≤ hi) = true by simp [h1, h2]]
      go_enter Tryd.func38, Tryd.ntmps38
      go_wp2
      go_ret
      exact ⟨rfl, rfl⟩
    · rw [show decide (lo ≤ n ∧ n ≤ hi) = false by simp [h1, h2]]
      go_enter Tryd.func38, Tryd.ntmps38
      go_wp2
      go_ret
      exact ⟨rfl, rfl⟩
  · rw [show decide (lo ≤ n ∧ n ≤ hi) = false by simp [h1]]
    go_enter Tryd.func38, Tryd.ntmps38
    go_wp2
    go_ret
    exact ⟨rfl, rfl⟩

/-- What holds at the head of a round. -/
def Rel (res m : Nat) (a n o : Value) : Prop :=
  ∃ a' n' o' : Nat, a = .int .i64 a' ∧ n = .int .i64 n' ∧ o = .int .i64 o' ∧ a' < m ∧ o' < m ∧ n' ≤ 9223372036854775807 ∧ o' * a' ^ n' % m = res
theorem mul_small {a b m : Nat} (ha : a < m) (hb : b < m) (hm : m ≤ 1000000) : a * b ≤ 1000000000000 :=
  Nat.le_trans (Nat.mul_le_mul (show a ≤ 1000000 by omega) (show b ≤ 1000000 by omega)) (by decide)

set_option maxRecDepth 100000 in
set_option maxHeartbeats 800000 in
theorem pow_spec (a n m : Nat) (w : World) (ha : a ≤ 9223372036854775807) (hn : n ≤ 9223372036854775807) (h1 : 1 ≤ m) (hm : m ≤ 1000000) :
    Calls Tryd.prog 39 #[.int .i64 a, .int .i64 n, .int .i64 m] w fun e w' => e = .returned (.int .i64 (Sg.pw a n m : Nat)) ∧ w = w' := by
  have hm0 : ((m : Int) == 0) = false := by simp; omega
  have h1l : 1 % m < m := Nat.mod_lt _ h1
  have hal : a % m < m := Nat.mod_lt _ h1
  have H0 : Hid ((1 % m) * (a % m) ^ n % m = Sg.pw a n m) := Sg.start a n m
  generalize Sg.pw a n m = res at *
  go_enter Tryd.func39, Tryd.ntmps39
  go_wp2
  go_loop [0, 1, 7] (fun a n o => Rel res m a n o) (fun _ n _ => (intOf n).toNat)
  case atStart => exact ⟨a % m, n, 1 % m, by go_num, rfl, by go_num, hal, h1l, hn, H0.out⟩
  case round =>
    clear H0 h1l hal
    obtain ⟨a', n', o', rfl, rfl, rfl, hal, hol, hnl, hr⟩ := hrel
    have HR : Hid (o' * a' ^ n' % m = res) := hr
    clear hr
    by_cases h0 : 0 < n'
    · have haa := mul_small hal hal hm
      have hoa := mul_small hol hal hm
      have aal : a' * a' % m < m := Nat.mod_lt _ h1
      have oal : o' * a' % m < m := Nat.mod_lt _ h1
      have h0' : (0 : Int) < (n' : Int) := by omega
      by_cases h2 : n' % 2 = 1
      · have HN : Hid ((o' * a' % m) * (a' * a' % m) ^ (n' / 2) % m = res) := by unfold Hid; rw [Sg.odd _ _ _ _ h2]; exact HR.out
        clear HR
        go_wp2
        go_round
        case rel => exact ⟨a' * a' % m, n' / 2, o' * a' % m, by go_num, by go_num, by go_num, aal, oal, by omega, HN.out⟩
        case measure => simp [intOf]; omega
      · have HN : Hid (o' * (a' * a' % m) ^ (n' / 2) % m = res) := by unfold Hid; rw [Sg.even _ _ _ _ (by omega)]; exact HR.out
        clear HR
        go_wp2
        go_round
        case rel => exact ⟨a' * a' % m, n' / 2, o', by go_num, by go_num, rfl, aal, hol, by omega, HN.out⟩
        case measure => simp [intOf]; omega
    · obtain rfl : n' = 0 := by omega
      have HE : Hid (o' = res) := by have := HR.out; rw [Sg.stop _ _ _ hol] at this; exact this
      clear HR
      go_wp2
      go_ret
      exact ⟨ret_int (by rw [HE.out]), rfl⟩
end Go.Proofs.YthmlkbgnooahlaaDoor.G0
