/-
  Products and what makes 1, of elements, in the specification.
-/
import Derived.Test.YtianmmonkllhpaaDoorC0
import Derived.Test.YtianmmonkllhpaaDoorPA
import Derived.Test.YtianmmonkllhpaaDoorG0
import Derived.Laws.BitsAllLaws
namespace Go.Proofs.YtianmmonkllhpaaDoor.J0
open Go.RowKit
open Go.Proofs.YtianmmonkllhpaaDoor.C0

theorem xor_i64 (a b : Nat) (ha : a < 65536) (hb : b < 65536) : bits .xor .i64 (a : Int) (b : Int) = ((a ^^^ b : Nat) : Int) := by
  have hx : a ^^^ b < 2 ^ 16 := Nat.xor_lt_two_pow (by omega) (by omega)
  show IntKind.i64.wrap ((BitVec.ofInt 64 (a : Int) ^^^ BitVec.ofInt 64 (b : Int)).toNat : Int) = _
  rw [BitVec.toNat_xor, ofInt_u64 a (by omega), ofInt_u64 b (by omega), IntKind.wrap_i64]
  omega
theorem xor_285 (a : Nat) (ha : a < 256) : bits .xor .i64 (2 * (a : Int)) 285 = ((2 * a ^^^ 285 : Nat) : Int) := by
  have := xor_i64 (2 * a) 285 (by omega) (by omega)
  rw [show ((2 * a : Nat) : Int) = 2 * (a : Int) by omega] at this
  exact this

/-- What holds at the head of a round. -/
def Rel (res : Nat) (a b n : Value) : Prop :=
  ∃ k a' b' n' : Nat, a = .int .i64 a' ∧ b = .int .i64 b' ∧ n = .int .i64 n' ∧ a' < 256 ∧ n' < 256 ∧ b' < 2 ^ k ∧ k ≤ 8 ∧ Gf.go k a' b' n' = res
theorem start (a b : Nat) (ha : a < 256) (hb : b < 256) : Rel (Gf.mul a b) (.int .i64 a) (.int .i64 b) (.int .i64 0) := ⟨8, a, b, 0, rfl, rfl, rfl, ha, by omega, by omega, Nat.le_refl _, rfl⟩
/-- A round: what it leaves, in the two ways of the bit and in the two ways of the carry. -/
theorem Rel.next {res k a b n : Nat} (ha : a < 256) (hn : n < 256) (hb : b < 2 ^ k) (hk : k ≤ 8) (h0 : 0 < b) (h : Gf.go k a b n = res) :
    Rel res (.int .i64 (Gf.xt a : Nat)) (.int .i64 ((b : Int) / 2)) (.int .i64 ((if b % 2 = 1 then n ^^^ a else n : Nat) : Int)) := by
  cases k with
  | zero => simp at hb; omega
  | succ k =>
    refine ⟨k, Gf.xt a, b / 2, if b % 2 = 1 then n ^^^ a else n, rfl, by rw [Int.natCast_ediv]; rfl, rfl, Gf.xt_lt a ha, ?_, by rw [Nat.pow_succ] at hb; omega, by omega, h⟩
    split
    · exact Gf.xor_lt hn ha
    · exact hn
theorem Rel.done {res : Nat} {a b n : Value} (h : Rel res a b n) (hb : b = .int .i64 0) : n = .int .i64 res := by
  obtain ⟨k, a', b', n', rfl, rfl, rfl, _, _, _, _, h⟩ := h
  have : b' = 0 := by simp at hb; omega
  subst this
  rw [Gf.go_zero] at h
  rw [h]
theorem xt_big {a : Nat} (h : 255 < 2 * a) : Gf.xt a = 2 * a ^^^ 285 := by unfold Gf.xt; rw [if_pos h]
theorem xt_small {a : Nat} (h : ¬ 255 < 2 * a) : Gf.xt a = 2 * a := by unfold Gf.xt; rw [if_neg h]

set_option maxRecDepth 100000 in
set_option maxHeartbeats 800000 in
theorem mul_spec (a b : Nat) (w : World) (ha : a < 256) (hb : b < 256) :
    Calls Tryd.prog 49 #[.int .i64 a, .int .i64 b] w fun e w' => e = .returned (.int .i64 (Gf.mul a b : Nat)) ∧ w = w' := by
  have H0 : Hid (Rel (Gf.mul a b) (.int .i64 a) (.int .i64 b) (.int .i64 0)) := start a b ha hb
  generalize Gf.mul a b = res at *
  go_enter Tryd.func49, Tryd.ntmps49
  go_wp2
  go_loop [0, 1, 5] (fun a b n => Rel res a b n) (fun _ b _ => (intOf b).toNat)
  case atStart => exact H0.out
  case round =>
    clear H0 ha hb
    obtain ⟨k, a', b', n', rfl, rfl, rfl, ha, hn, hb, hk, hr⟩ := hrel
    by_cases h0 : 0 < b'
    · have HN := Rel.next ha hn hb hk h0 hr
      have h256 : b' < 256 := Nat.lt_of_lt_of_le hb (Nat.pow_le_pow_right (n := 2) (by decide) hk)
      have hx := xor_i64 n' a' (by omega) (by omega)
      have h5 := xor_285 a' ha
      have h0' : (0 : Int) < (b' : Int) := by omega
      clear hr hb hk
      by_cases h2 : b' % 2 = 1
      · rw [if_pos h2] at HN
        by_cases h3 : 255 < 2 * a'
        · rw [xt_big h3] at HN
          have HR : Hid _ := HN
          clear HN
          go_wp2
          go_round
          case rel => exact HR.out
          case measure => simp [intOf]; omega
        · rw [xt_small h3] at HN
          have HR : Hid _ := HN
          clear HN
          go_wp2
          go_round
          case rel => exact (by rw [← show ((2 * a' : Nat) : Int) = 2 * (a' : Int) by omega]; exact HR.out)
          case measure => simp [intOf]; omega
      · rw [if_neg h2] at HN
        by_cases h3 : 255 < 2 * a'
        · rw [xt_big h3] at HN
          have HR : Hid _ := HN
          clear HN
          go_wp2
          go_round
          case rel => exact HR.out
          case measure => simp [intOf]; omega
        · rw [xt_small h3] at HN
          have HR : Hid _ := HN
          clear HN
          go_wp2
          go_round
          case rel => exact (by rw [← show ((2 * a' : Nat) : Int) = 2 * (a' : Int) by omega]; exact HR.out)
          case measure => simp [intOf]; omega
    · obtain rfl : b' = 0 := by omega
      have HE : Hid (n' = res) := by rw [Gf.go_zero] at hr; exact hr
      clear hr
      go_wp2
      go_ret
      exact ⟨ret_int (by rw [HE.out]), rfl⟩

theorem invGo_succ (k p n : Nat) : Gf.invGo (k + 1) p n = Gf.invGo k (Gf.mul p p) (Gf.mul n (Gf.mul p p)) := rfl
set_option maxRecDepth 100000 in
set_option maxHeartbeats 800000 in
theorem inv_spec (a : Nat) (w : World) (ha : a < 256) :
    Calls Tryd.prog 52 #[.int .i64 a] w fun e w' => e = .returned (.int .i64 (Gf.inv a : Nat)) ∧ w = w' := by
  have H0 : Hid (Gf.invGo 7 a 1 = Gf.inv a) := rfl
  generalize Gf.inv a = res at *
  go_enter Tryd.func52, Tryd.ntmps52
  go_wp2
  go_loop [3, 4, 5] (fun n p i => ∃ k n' p' : Nat, k ≤ 7 ∧ i = .int .i64 k ∧ n = .int .i64 n' ∧ p = .int .i64 p' ∧ n' < 256 ∧ p' < 256 ∧ Gf.invGo (7 - k) p' n' = res) (fun _ _ i => 7 - (intOf i).toNat)
  case atStart => exact ⟨0, 1, a, by omega, rfl, rfl, rfl, by omega, ha, H0.out⟩
  case round =>
    clear H0
    obtain ⟨k, n, p, hk, rfl, rfl, rfl, hn, hp, hr⟩ := hrel
    by_cases hlt : k < 7
    · have HR : Hid (Gf.invGo (7 - (k + 1)) (Gf.mul p p) (Gf.mul n (Gf.mul p p)) = res) := by
        unfold Hid; rw [← hr, show 7 - k = (7 - (k + 1)) + 1 by omega, invGo_succ]
      have hpp : Gf.mul p p < 256 := Gf.mul_lt p hp
      have hnp : Gf.mul n (Gf.mul p p) < 256 := Gf.mul_lt _ hn
      clear hr
      go_wp2_with fail
      refine (mul_spec p p _ hp hp).mono ?_
      rintro e w1 ⟨rfl, rfl⟩
      go_wp2_with fail
      refine (mul_spec n (Gf.mul p p) _ hn hpp).mono ?_
      rintro e w1 ⟨rfl, rfl⟩
      go_wp2
      go_round
      case rel => exact ⟨k + 1, _, _, by omega, by go_num, rfl, rfl, hnp, hpp, HR.out⟩
      case measure => simp [intOf]; omega
    · obtain rfl : k = 7 := by omega
      have HE : Hid (n = res) := hr
      clear hr
      go_wp2
      go_ret
      exact ⟨ret_int (by rw [HE.out]), rfl⟩
end Go.Proofs.YtianmmonkllhpaaDoor.J0
