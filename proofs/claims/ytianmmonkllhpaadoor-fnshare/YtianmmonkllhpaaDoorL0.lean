/-
  Elements in the program: products made whole and lowered, what makes 1, is a share right.
-/
import Derived.Test.YtianmmonkllhpaaDoorLB
import Derived.Test.YtianmmonkllhpaaDoorPA
import Derived.Test.YtianmmonkllhpaaDoorJ1
import Derived.Test.YtianmmonkllhpaaDoorH0
namespace Go.Proofs.YtianmmonkllhpaaDoor.L0
open Go.RowKit
open Go.Proofs.YtianmmonkllhpaaDoor.C0 Go.Proofs.YtianmmonkllhpaaDoor.HB
open Go.Proofs.YtianmmonkllhpaaDoor.J0 (xor_i64)
open Go.Proofs.YtianmmonkllhpaaDoor.J1 (shareR yes2 no2)

theorem places {n : Nat} (h0 : 255 < n) (h1 : n < 65536) : ∃ k, k < 8 ∧ 2 ^ (k + 8) ≤ n ∧ n < 2 ^ (k + 9) := by
  have h : n < 2 ^ 16 := h1
  by_cases a9 : n < 512
  · exact ⟨0, by decide, by omega, by omega⟩
  by_cases a10 : n < 1024
  · exact ⟨1, by decide, by omega, by omega⟩
  by_cases a11 : n < 2048
  · exact ⟨2, by decide, by omega, by omega⟩
  by_cases a12 : n < 4096
  · exact ⟨3, by decide, by omega, by omega⟩
  by_cases a13 : n < 8192
  · exact ⟨4, by decide, by omega, by omega⟩
  by_cases a14 : n < 16384
  · exact ⟨5, by decide, by omega, by omega⟩
  by_cases a15 : n < 32768
  · exact ⟨6, by decide, by omega, by omega⟩
  exact ⟨7, by decide, by omega, by omega⟩
theorem turn_small : ∀ k, k < 8 → 285 * 2 ^ k < 65536 := by decide
theorem wrap_turn {k T : Nat} (hk : k < 8) (h : 285 * 2 ^ k = T) : wrap64 (285 * 2 ^ k) = (T : Int) := by
  have hb := turn_small k hk
  have e : (285 : Int) * 2 ^ k = ((285 * 2 ^ k : Nat) : Int) := by simp
  rw [e, h]
  unfold wrap64
  omega
set_option maxRecDepth 100000 in
set_option maxHeartbeats 1600000 in
theorem lowered_impl (n : Nat) (w : World) (hn : n < 65536) :
    Calls Tryd.prog 47 #[.int .i64 n] w fun e w' => e = .returned (.int .i64 (Gt.lo n : Nat)) ∧ w = w' := by
  have H0 : Hid (Gt.lu 8 n = Gt.lo n) := rfl
  generalize Gt.lo n = res at *
  go_enter Tryd.func47, Tryd.ntmps47
  go_wp2
  go_loop [0] (fun a => ∃ m : Nat, a = .int .i64 m ∧ m < 65536 ∧ Gt.lu 8 m = res) (fun a => (intOf a).toNat)
  case atStart => exact ⟨n, rfl, hn, H0.out⟩
  case round =>
    clear H0 hn
    obtain ⟨m, rfl, hm, hr⟩ := hrel
    by_cases h0 : 255 < m
    · obtain ⟨k, hk, h1, h2⟩ := places h0 hm
      have HN : Hid (Gt.lu 8 (m ^^^ (285 * 2 ^ k)) = res) := by unfold Hid; rw [← hr]; exact (Gt.lu_step hk h1 h2).symm
      have hlt : m ^^^ (285 * 2 ^ k) < m := Nat.lt_of_lt_of_le (Gt.top_gone h1 h2).1 h1
      have hx := xor_i64 m (285 * 2 ^ k) hm (turn_small k hk)
      have hbig := turn_small k hk
      obtain ⟨T, hT⟩ : ∃ T, 285 * 2 ^ k = T := ⟨_, rfl⟩
      have HT : Hid (285 * 2 ^ k = T) := hT
      rw [hT] at HN hlt hx hbig
      have h0' : (255 : Int) < (m : Int) := by omega
      clear hT hr h0
      go_wp2_with fail
      refine (LB.len_any m k _ hk h1 h2).mono ?_
      rintro e w1 ⟨rfl, rfl⟩
      clear h1 h2
      go_wp2
      rw [wrap_turn hk HT.out, hx]
      refine ⟨⟨_, rfl, by omega, HN.out⟩, ?_⟩
      simp [intOf]; omega
    · have HE : Hid (m = res) := by rw [Gt.lu_small 8 m (by omega)] at hr; exact hr
      clear hr
      go_wp2
      go_ret
      exact ⟨ret_int (by rw [HE.out]), rfl⟩

theorem element_impl (n : Int) (w : World) :
    Calls Tryd.prog 46 #[.int .i64 n] w fun e w' => e = .returned (.bool (decide (0 ≤ n ∧ n ≤ 255))) ∧ w = w' := by
  go_enter Tryd.func46, Tryd.ntmps46
  go_wp2_with fail
  refine (H0.from_impl 0 n 255 _).mono ?_
  rintro e w1 ⟨rfl, rfl⟩
  go_wp2
  go_ret
  rw [Bool.decide_and]
  exact ⟨rfl, rfl⟩

theorem and_one (a : Nat) (ha : a < 65536) : bits .and .i64 (a : Int) 1 = ((a % 2 : Nat) : Int) := by
  show IntKind.i64.wrap ((BitVec.ofInt 64 (a : Int) &&& BitVec.ofInt 64 ((1 : Nat) : Int)).toNat : Int) = _
  rw [BitVec.toNat_and, ofInt_u64 a (by omega), ofInt_u64 1 (by omega), IntKind.wrap_i64, Nat.and_one_is_mod]
  omega
/-- A product, of whatever numbers. -/
def mulR (a b : Int) : Nat := if 0 ≤ a ∧ a ≤ 255 ∧ 0 ≤ b ∧ b ≤ 255 then Gf.mul a.toNat b.toNat else 0
theorem mulR_yes {a b : Nat} (ha : a < 256) (hb : b < 256) : mulR a b = Gf.mul a b := by
  unfold mulR; rw [if_pos ⟨by omega, by omega, by omega, by omega⟩]; rfl
theorem mulR_no {a b : Int} (h : ¬ (0 ≤ a ∧ a ≤ 255 ∧ 0 ≤ b ∧ b ≤ 255)) : mulR a b = 0 := by unfold mulR; rw [if_neg h]
set_option maxRecDepth 100000 in
set_option maxHeartbeats 1600000 in
theorem mul_impl (a b : Nat) (w : World) (ha : a < 256) (hb : b < 256) :
    Calls Tryd.prog 15 #[.int .i64 a, .int .i64 b] w fun e w' => e = .returned (.int .i64 (Gf.mul a b : Nat)) ∧ w = w' := by
  have HL : Hid (Gt.lo (Gt.cl 8 a b 0) = Gf.mul a b) := Gt.lo_cl a b ha hb
  have HC : Gt.cl 8 a b 0 < 65536 := Gt.cl_lt 8 a b 0 8 ha (by decide)
  have ya : (0 : Int) ≤ (a : Int) ∧ (a : Int) ≤ 255 := ⟨by omega, by omega⟩
  have yb : (0 : Int) ≤ (b : Int) ∧ (b : Int) ≤ 255 := ⟨by omega, by omega⟩
  have H0 : Hid (∃ k, k ≤ 8 ∧ b < 2 ^ k ∧ a < 2 ^ (16 - k) ∧ Gt.cl k a b 0 = Gt.cl 8 a b 0) := ⟨8, Nat.le_refl _, hb, ha, rfl⟩
  generalize Gf.mul a b = res at *
  generalize Gt.cl 8 a b 0 = mid at *
  go_enter Tryd.func15, Tryd.ntmps15
  go_wp2_with fail
  refine (element_impl _ _).mono ?_
  rintro e w1 ⟨rfl, rfl⟩
  rw [yes2 ya]
  go_wp2_with fail
  refine (element_impl _ _).mono ?_
  rintro e w1 ⟨rfl, rfl⟩
  rw [yes2 yb]
  go_wp2_with fail
  go_loop [0, 1, 5] (fun a b n => ∃ k a' b' n' : Nat, a = .int .i64 a' ∧ b = .int .i64 b' ∧ n = .int .i64 n' ∧ k ≤ 8 ∧ b' < 2 ^ k ∧ a' < 2 ^ (16 - k) ∧ n' < 65536 ∧ Gt.cl k a' b' n' = mid) (fun _ b _ => (intOf b).toNat)
  case atStart =>
    obtain ⟨k, k1, k2, k3, k4⟩ := H0.out
    exact ⟨k, a, b, 0, rfl, rfl, rfl, k1, k2, k3, by decide, k4⟩
  case round =>
    clear H0 ya yb
    obtain ⟨k, a', b', n', rfl, rfl, rfl, hk, hb', ha', hn, hr⟩ := hrel
    by_cases h0 : 0 < b'
    · have h0' : (0 : Int) < (b' : Int) := by omega
      obtain ⟨q, rfl⟩ : ∃ q, k = q + 1 := by
        cases k with
        | zero => simp at hb'; omega
        | succ q => exact ⟨q, rfl⟩
      have a16 : a' < 32768 := by
        have := Nat.pow_le_pow_right (n := 2) (by decide) (show 16 - (q + 1) ≤ 15 by omega); omega
      have b8 : b' < 256 := by
        have := Nat.pow_le_pow_right (n := 2) (by decide) hk; omega
      have HA : Hid (2 * a' < 2 ^ (16 - q)) := by
        unfold Hid; rw [show 16 - q = (16 - (q + 1)) + 1 by omega, Nat.pow_succ]; omega
      have HB : Hid (b' / 2 < 2 ^ q) := by unfold Hid; rw [Nat.pow_succ] at hb'; omega
      have HK : Hid (q ≤ 8) := by unfold Hid; omega
      have HN : Hid (Gt.cl q (2 * a') (b' / 2) (if b' % 2 = 1 then n' ^^^ a' else n') = mid) := hr
      have hx := xor_i64 n' a' hn (by omega)
      have hxl : n' ^^^ a' < 65536 := Nat.xor_lt_two_pow (n := 16) hn (by omega)
      clear hr hb' ha'
      have h1 := and_one b' (by omega)
      by_cases h2 : b' % 2 = 1
      · rw [if_pos h2] at HN
        rw [h2] at h1
        go_wp2
        exact ⟨⟨q, 2 * a', b' / 2, n' ^^^ a', by go_num, by go_num, rfl, HK.out, HB.out, HA.out, hxl, HN.out⟩, by simp [intOf]; omega⟩
      · rw [if_neg h2] at HN
        rw [show b' % 2 = 0 by omega] at h1
        go_wp2
        exact ⟨⟨q, 2 * a', b' / 2, n', by go_num, by go_num, rfl, HK.out, HB.out, HA.out, hn, HN.out⟩, by simp [intOf]; omega⟩
    · obtain rfl : b' = 0 := by omega
      have HE : Hid (n' = mid) := by rw [Gt.cl_zero] at hr; exact hr
      clear hr ha'
      go_wp2_with fail
      refine (lowered_impl n' _ hn).mono ?_
      rintro e w1 ⟨rfl, rfl⟩
      go_wp2
      go_ret
      exact ⟨ret_int (by rw [HE.out, HL.out]), rfl⟩
set_option maxRecDepth 100000 in
theorem mul_any (a b : Int) (w : World) :
    Calls Tryd.prog 15 #[.int .i64 a, .int .i64 b] w fun e w' => e = .returned (.int .i64 (mulR a b : Nat)) ∧ w = w' := by
  by_cases ha : 0 ≤ a ∧ a ≤ 255
  · by_cases hb : 0 ≤ b ∧ b ≤ 255
    · obtain ⟨a', rfl⟩ := Int.eq_ofNat_of_zero_le ha.1
      obtain ⟨b', rfl⟩ := Int.eq_ofNat_of_zero_le hb.1
      rw [mulR_yes (by omega) (by omega)]
      exact mul_impl a' b' w (by omega) (by omega)
    · rw [mulR_no (by omega)]
      go_enter Tryd.func15, Tryd.ntmps15
      go_wp2_with fail
      refine (element_impl _ _).mono ?_
      rintro e w1 ⟨rfl, rfl⟩
      rw [yes2 ha]
      go_wp2_with fail
      refine (element_impl _ _).mono ?_
      rintro e w1 ⟨rfl, rfl⟩
      rw [no2 hb]
      go_wp2
      go_ret
      exact ⟨rfl, rfl⟩
  · rw [mulR_no (by omega)]
    go_enter Tryd.func15, Tryd.ntmps15
    go_wp2_with fail
    refine (element_impl _ _).mono ?_
    rintro e w1 ⟨rfl, rfl⟩
    rw [no2 ha]
    go_wp2
    go_ret
    exact ⟨rfl, rfl⟩

/-- What makes 1, of whatever number. -/
def invR (a : Int) : Nat := if 1 ≤ a ∧ a ≤ 255 then Gf.inv a.toNat else 0
theorem invR_yes {a : Nat} (h1 : 1 ≤ a) (ha : a < 256) : invR a = Gf.inv a := by
  unfold invR; rw [if_pos ⟨by omega, by omega⟩]; rfl
theorem invR_no {a : Int} (h : ¬ (1 ≤ a ∧ a ≤ 255)) : invR a = 0 := by unfold invR; rw [if_neg h]
set_option maxRecDepth 100000 in
set_option maxHeartbeats 1600000 in
theorem power_impl (a : Nat) (w : World) (ha : a < 256) :
    Calls Tryd.prog 51 #[.int .i64 a, .int .i64 254, .int .i64 1, .func (.func 15) #[] #[]] w fun e w' => e = .returned (.int .i64 (Gf.inv a : Nat)) ∧ w = w' := by
  have H0 : Hid (Gt.sq 8 a 254 1 = Gf.inv a) := Gt.sq_inv a ha
  generalize Gf.inv a = res at *
  go_enter Tryd.func51, Tryd.ntmps51
  go_wp2
  go_loop [0, 1, 9] (fun a n o => ∃ k a' n' o' : Nat, a = .int .i64 a' ∧ n = .int .i64 n' ∧ o = .int .i64 o' ∧ a' < 256 ∧ o' < 256 ∧ n' < 2 ^ k ∧ k ≤ 8 ∧ Gt.sq k a' n' o' = res) (fun _ n _ => (intOf n).toNat)
  case atStart => exact ⟨8, a, 254, 1, rfl, rfl, rfl, ha, by decide, by decide, Nat.le_refl _, H0.out⟩
  case round =>
    clear H0 ha
    obtain ⟨k, a', n', o', rfl, rfl, rfl, ha, ho, hn, hk, hr⟩ := hrel
    by_cases h0 : 0 < n'
    · have h0' : (0 : Int) < (n' : Int) := by omega
      obtain ⟨q, rfl⟩ : ∃ q, k = q + 1 := by
        cases k with
        | zero => simp at hn; omega
        | succ q => exact ⟨q, rfl⟩
      have n8 : n' < 256 := by
        have := Nat.pow_le_pow_right (n := 2) (by decide) hk; omega
      have HB : Hid (n' / 2 < 2 ^ q) := by unfold Hid; rw [Nat.pow_succ] at hn; omega
      have HK : Hid (q ≤ 8) := by unfold Hid; omega
      have HN : Hid (Gt.sq q (Gf.mul a' a') (n' / 2) (if n' % 2 = 1 then Gf.mul o' a' else o') = res) := hr
      have aal := Gf.mul_lt a' ha
      have oal := Gf.mul_lt a' ho
      clear hr hn hk
      by_cases h2 : n' % 2 = 1
      · rw [if_pos h2] at HN
        go_wp2_with fail
        refine (mul_impl o' a' _ ho ha).mono ?_
        rintro e w1 ⟨rfl, rfl⟩
        go_wp2_with fail
        refine (mul_impl a' a' _ ha ha).mono ?_
        rintro e w1 ⟨rfl, rfl⟩
        go_wp2
        go_round
        case rel => exact ⟨q, _, n' / 2, _, rfl, by go_num, rfl, aal, oal, HB.out, HK.out, HN.out⟩
        case measure => simp [intOf]; omega
      · rw [if_neg h2] at HN
        go_wp2_with fail
        refine (mul_impl a' a' _ ha ha).mono ?_
        rintro e w1 ⟨rfl, rfl⟩
        go_wp2
        go_round
        case rel => exact ⟨q, _, n' / 2, o', rfl, by go_num, rfl, aal, ho, HB.out, HK.out, HN.out⟩
        case measure => simp [intOf]; omega
    · obtain rfl : n' = 0 := by omega
      have HE : Hid (o' = res) := by rw [Gt.sq_zero] at hr; exact hr
      clear hr hn
      go_wp2
      go_ret
      exact ⟨ret_int (by rw [HE.out]), rfl⟩
set_option maxRecDepth 100000 in
theorem inv_impl (a : Nat) (w : World) (h1 : 1 ≤ a) (ha : a < 256) :
    Calls Tryd.prog 17 #[.int .i64 a] w fun e w' => e = .returned (.int .i64 (Gf.inv a : Nat)) ∧ w = w' := by
  have ya : (1 : Int) ≤ (a : Int) ∧ (a : Int) ≤ 255 := ⟨by omega, by omega⟩
  go_enter Tryd.func17, Tryd.ntmps17
  go_wp2_with fail
  refine (H0.from_impl 1 a 255 _).mono ?_
  rintro e w1 ⟨rfl, rfl⟩
  rw [yes2 ya]
  go_wp2_with fail
  refine (power_impl a _ ha).mono ?_
  rintro e w1 ⟨rfl, rfl⟩
  go_wp2
  go_ret
  exact ⟨rfl, rfl⟩
set_option maxRecDepth 100000 in
theorem inv_any (a : Int) (w : World) :
    Calls Tryd.prog 17 #[.int .i64 a] w fun e w' => e = .returned (.int .i64 (invR a : Nat)) ∧ w = w' := by
  by_cases ha : 1 ≤ a ∧ a ≤ 255
  · obtain ⟨a', rfl⟩ := Int.eq_ofNat_of_zero_le (show 0 ≤ a by omega)
    rw [invR_yes (by omega) (by omega)]
    exact inv_impl a' w (by omega) (by omega)
  · rw [invR_no ha]
    go_enter Tryd.func17, Tryd.ntmps17
    go_wp2_with fail
    refine (H0.from_impl 1 a 255 _).mono ?_
    rintro e w1 ⟨rfl, rfl⟩
    rw [no2 ha]
    go_wp2
    go_ret
    exact ⟨rfl, rfl⟩

set_option maxRecDepth 100000 in
theorem right_impl (i : Int) (d : ByteArray) (w : World) (hd : d.size ≤ maxLen) :
    Calls Tryd.prog 19 #[.agg #[.int .i64 i, .string d]] w fun e w' => e = .returned (.bool (shareR i d)) ∧ Below w.heap.size w w' := by
  unfold maxLen at hd
  have HB : Hid (Below w.heap.size w (w.alloc (.cells #[.int .i64 i, .string d] 33))) := albel w _
  by_cases hi : 1 ≤ i ∧ i ≤ 6
  · have HR : Hid (decide ((1 : Int) ≤ (d.size : Int) ∧ (d.size : Int) ≤ 16) = shareR i d) := by
      unfold Hid shareR
      apply Bool.eq_iff_iff.2
      rw [decide_eq_true_iff, decide_eq_true_iff]
      omega
    go_enter Tryd.func19, Tryd.ntmps19
    go_wp2_with fail
    refine (H0.from_impl 1 i 6 _).mono ?_
    rintro x w1 ⟨rfl, rfl⟩
    rw [yes2 hi]
    go_wp2_with fail
    refine (H0.from_impl 1 _ 16 _).mono ?_
    rintro x w1 ⟨rfl, rfl⟩
    rw [HR.out]
    go_wp2
    go_ret
    exact ⟨rfl, HB.out⟩
  · rw [show shareR i d = false from decide_eq_false (fun h => hi ⟨h.1, h.2.1⟩)]
    go_enter Tryd.func19, Tryd.ntmps19
    go_wp2_with fail
    refine (H0.from_impl 1 i 6 _).mono ?_
    rintro x w1 ⟨rfl, rfl⟩
    rw [no2 hi]
    go_wp2
    go_ret
    exact ⟨rfl, HB.out⟩
end Go.Proofs.YtianmmonkllhpaaDoor.L0
