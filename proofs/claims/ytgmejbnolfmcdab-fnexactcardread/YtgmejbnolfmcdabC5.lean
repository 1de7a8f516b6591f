/-
  What the CRC's functions answer, in the specification and in the program.
-/
import Derived.Test.YtgmejbnolfmcdabC0
import Derived.Test.YtgmejbnolfmcdabM2
import Derived.Laws.BitsAllLaws
namespace Go.Proofs.Ytgmejbnolfmcdab.C5
open Go.RowKit
open Go.Proofs.Ytgmejbnolfmcdab.C0

theorem and_odd (r : Nat) (h : r < 4294967296) (h1 : r % 2 = 1) : bits .and .u32 (r : Int) 1 = 1 := by
  have := u32_and_nat r 1 h (by omega)
  rw [nat_mask1, h1] at this
  exact this
theorem and_even (r : Nat) (h : r < 4294967296) (h1 : ¬ r % 2 = 1) : bits .and .u32 (r : Int) 1 = 0 := by
  have := u32_and_nat r 1 h (by omega)
  rw [nat_mask1, show r % 2 = 0 by omega] at this
  exact this
theorem xor_ones (r : Nat) (h : r < 4294967296) : bits .xor .u32 (r : Int) 4294967295 = ((r ^^^ 4294967295 : Nat) : Int) := u32_xor_nat r 4294967295 h (by omega)
theorem max_xor (r : Nat) (h : r < 4294967296) : bits .xor .u32 IntKind.u32.max (r : Int) = ((r ^^^ 4294967295 : Nat) : Int) := by
  rw [Nat.xor_comm]; exact u32_xor_nat 4294967295 r (by omega) h
theorem xor_poly (r : Nat) (h : r < 4294967296) : bits .xor .u32 ((r : Int) / 2) 3988292384 = (((r / 2) ^^^ 3988292384 : Nat) : Int) := by
  have := u32_xor_nat (r / 2) 3988292384 (by omega) (by omega)
  exact this

set_option maxRecDepth 100000 in
set_option maxHeartbeats 800000 in
theorem step_impl (r : Nat) (c : UInt8) (w : World) (hr : r < 4294967296) :
    Calls Try.prog 50 #[.int .u32 r, .int .u8 c.toNat] w fun e w' => e = .returned (.int .u32 (Mc.crcByte r c : Nat)) ∧ w = w' := by
  have hc := c.toNat_lt
  have hx := u32_xor_nat r c.toNat hr (by omega)
  have hxl := Mc.xor_lt hr (Mc.byte_lt c)
  have HB : Hid (Mc.crcByte r c = Mc.iter 8 (r ^^^ c.toNat)) := rfl
  generalize r ^^^ c.toNat = x at *
  go_enter Try.func50, Try.ntmps50
  go_wp2
  go_loop [0, 10] (fun v i => ∃ k : Nat, k ≤ 8 ∧ i = .int .i64 k ∧ v = .int .u32 (Mc.iter k x : Nat)) (fun _ i => 8 - (intOf i).toNat)
  case atStart => exact ⟨0, Nat.zero_le _, rfl, rfl⟩
  case round =>
    obtain ⟨k, hk, rfl, rfl⟩ := hrel
    have hy := Mc.iter_lt k hxl
    have HS : Hid (Mc.iter (k + 1) x = Mc.bit1 (Mc.iter k x)) := rfl
    by_cases hlt : k < 8
    · have Hk : Hid (k < 8) := hlt
      by_cases ho : Mc.iter k x % 2 = 1
      · have e1 := and_odd _ hy ho
        have e2 := xor_poly _ hy
        have e3 : Hid (Mc.bit1 (Mc.iter k x) = (Mc.iter k x / 2) ^^^ 3988292384) := Mc.bit1_odd ho
        clear ho
        go_wp2
        go_round
        case rel => exact ⟨k + 1, by omega, by go_num, by rw [HS.out, e3.out]⟩
        case measure => simp [intOf]; omega
      · have e1 := and_even _ hy ho
        have e3 : Hid (Mc.bit1 (Mc.iter k x) = Mc.iter k x / 2) := Mc.bit1_even ho
        clear ho
        go_wp2
        go_round
        case rel => exact ⟨k + 1, by omega, by go_num, by rw [HS.out, e3.out]; go_num⟩
        case measure => simp [intOf]; omega
    · obtain rfl : k = 8 := by omega
      go_wp2
      go_ret
      exact ⟨by rw [HB.out]; rfl, rfl⟩

theorem take_snoc (s : ByteArray) (k : Nat) (h : k < s.size) : s.data.toList.take (k + 1) = s.data.toList.take k ++ [s[k]] := by
  rw [List.take_succ_eq_append_getElem (by simpa using h)]; rfl
theorem reg_succ (r : Nat) (s : ByteArray) (k : Nat) (h : k < s.size) : Mc.crcReg r (s.data.toList.take (k + 1)) = Mc.iter 8 (Mc.crcReg r (s.data.toList.take k) ^^^ s[k].toNat) := by
  rw [take_snoc s k h, Mc.crcReg_snoc]; rfl

set_option maxRecDepth 100000 in
set_option maxHeartbeats 800000 in
theorem crc_spec (crc : Nat) (s : ByteArray) (w : World) (hcrc : crc < 4294967296) (hs : s.size ≤ 8000) :
    Calls Try.prog 35 #[.int .i64 crc, .string s] w fun e w' => e = .returned (.int .i64 (Mc.crcMore crc s.data.toList : Nat)) ∧ w = w' := by
  have hx := xor_ones crc hcrc
  have hxl : crc ^^^ 4294967295 < 4294967296 := Mc.xor_lt hcrc (by omega)
  have HB : Hid (Mc.crcMore crc s.data.toList = Mc.crcReg (crc ^^^ 4294967295) s.data.toList ^^^ 4294967295) := rfl
  generalize crc ^^^ 4294967295 = x at *
  go_enter Try.func35, Try.ntmps35
  go_wp2
  go_loop [5, 6] (fun v i => ∃ k : Nat, k ≤ s.size ∧ i = .int .i64 k ∧ v = .int .u32 (Mc.crcReg x (s.data.toList.take k) : Nat)) (fun _ i => s.size - (intOf i).toNat)
  case atStart => exact ⟨0, Nat.zero_le _, rfl, by simp [Mc.crcReg]⟩
  case round =>
    obtain ⟨k, hk, rfl, rfl⟩ := hrel
    have hy := Mc.crcReg_lt (s.data.toList.take k) hxl
    by_cases hlt : k < s.size
    · have hx2 := u32_xor_nat _ s[k].toNat hy (Mc.byte_lt s[k])
      have hyl := Mc.xor_lt hy (Mc.byte_lt s[k])
      have HS : Hid (Mc.crcReg x (s.data.toList.take (k + 1)) = Mc.iter 8 (Mc.crcReg x (s.data.toList.take k) ^^^ s[k].toNat)) := reg_succ x s k hlt
      have hb := s[k].toNat_lt
      generalize Mc.crcReg x (s.data.toList.take k) ^^^ s[k].toNat = y at *
      go_wp2
      go_loop [5, 7] (fun v i => ∃ j : Nat, j ≤ 8 ∧ i = .int .i64 j ∧ v = .int .u32 (Mc.iter j y : Nat)) (fun _ i => 8 - (intOf i).toNat)
      case atStart => exact ⟨0, Nat.zero_le _, rfl, rfl⟩
      case round =>
        obtain ⟨j, hj, rfl, rfl⟩ := hrel
        have hz := Mc.iter_lt j hyl
        have HT : Hid (Mc.iter (j + 1) y = Mc.bit1 (Mc.iter j y)) := rfl
        by_cases hl8 : j < 8
        · by_cases ho : Mc.iter j y % 2 = 1
          · have e1 := and_odd _ hz ho
            have e2 := xor_poly _ hz
            have e3 : Hid (Mc.bit1 (Mc.iter j y) = (Mc.iter j y / 2) ^^^ 3988292384) := Mc.bit1_odd ho
            clear ho
            go_wp2
            go_round
            case rel => exact ⟨j + 1, by omega, by go_num, by rw [HT.out, e3.out]⟩
            case measure => simp [intOf]; omega
          · have e1 := and_even _ hz ho
            have e3 : Hid (Mc.bit1 (Mc.iter j y) = Mc.iter j y / 2) := Mc.bit1_even ho
            clear ho
            go_wp2
            go_round
            case rel => exact ⟨j + 1, by omega, by go_num, by rw [HT.out, e3.out]; go_num⟩
            case measure => simp [intOf]; omega
        · obtain rfl : j = 8 := by omega
          go_wp2
          go_round
          case rel => exact ⟨k + 1, by omega, by go_num, by rw [HS.out]⟩
          case measure => simp [intOf]; omega
    · obtain rfl : k = s.size := by omega
      have ht : s.data.toList.take s.size = s.data.toList := List.take_of_length_le (by simp)
      rw [ht] at hy ⊢
      have hx2 := xor_ones _ hy
      have hyl := Mc.xor_lt hy (show 4294967295 < 4294967296 by omega)
      go_wp2
      go_ret
      exact ⟨by rw [HB.out]; rfl, rfl⟩

/-- What CrcMore answers. -/
def more (crc : Int) (s : ByteArray) : Nat := if 8000 < s.size ∨ crc < 0 ∨ 4294967295 < crc then 0 else Mc.crcMore crc.toNat s.data.toList
theorem more_no {crc : Int} {s : ByteArray} (h : 8000 < s.size ∨ crc < 0 ∨ 4294967295 < crc) : more crc s = 0 := by simp [more, h]
theorem more_yes {crc : Int} {s : ByteArray} (h1 : ¬ 8000 < s.size) (h2 : ¬ crc < 0) (h3 : ¬ 4294967295 < crc) : more crc s = Mc.crcMore crc.toNat s.data.toList := by
  unfold more; rw [if_neg (by omega)]


set_option maxRecDepth 100000 in
set_option maxHeartbeats 800000 in
theorem more_impl (crc : Int) (s : ByteArray) (w : World) (l0 : -9223372036854775808 ≤ crc) (u0 : crc ≤ 9223372036854775807) (hs : s.size ≤ maxLen) :
    Calls Try.prog 47 #[.int .i64 crc, .string s] w fun e w' => e = .returned (.int .i64 (more crc s : Nat)) ∧ w = w' := by
  unfold maxLen at hs
  by_cases h1 : 8000 < s.size
  · rw [more_no (.inl h1)]
    have d1 : decide ((8000 : Int) < (s.size : Int)) = true := by simp; omega
    go_enter Try.func47, Try.ntmps47
    go_wp2
    go_ret
    exact ⟨rfl, rfl⟩
  have d1 : decide ((8000 : Int) < (s.size : Int)) = false := by simp; omega
  by_cases h2 : crc < 0
  · rw [more_no (.inr (.inl h2))]
    go_enter Try.func47, Try.ntmps47
    go_wp2
    go_ret
    exact ⟨rfl, rfl⟩
  have d2 : decide (crc < 0) = false := by simp; omega
  by_cases h3 : 4294967295 < crc
  · rw [more_no (.inr (.inr h3))]
    go_enter Try.func47, Try.ntmps47
    go_wp2
    go_ret
    exact ⟨rfl, rfl⟩
  have d3 : decide ((4294967295 : Int) < crc) = false := by simp; omega
  rw [more_yes h1 h2 h3]
  obtain ⟨n, rfl⟩ := Int.eq_ofNat_of_zero_le (show 0 ≤ crc by omega)
  have hn : n < 4294967296 := by omega
  have hx := max_xor n hn
  have hxl : n ^^^ 4294967295 < 4294967296 := Mc.xor_lt hn (by omega)
  have HB : Hid (Mc.crcMore n s.data.toList = Mc.crcReg (n ^^^ 4294967295) s.data.toList ^^^ 4294967295) := rfl
  simp only [Int.toNat_natCast]
  generalize n ^^^ 4294967295 = x at *
  go_enter Try.func47, Try.ntmps47
  go_wp2
  go_loop [5, 6] (fun v i => ∃ k : Nat, k ≤ s.size ∧ i = .int .i64 k ∧ v = .int .u32 (Mc.crcReg x (s.data.toList.take k) : Nat)) (fun _ i => s.size - (intOf i).toNat)
  case atStart => exact ⟨0, Nat.zero_le _, rfl, by simp [Mc.crcReg]⟩
  case round =>
    obtain ⟨k, hk, rfl, rfl⟩ := hrel
    have hy := Mc.crcReg_lt (s.data.toList.take k) hxl
    by_cases hlt : k < s.size
    · have HS : Hid (Mc.crcReg x (s.data.toList.take (k + 1)) = Mc.crcByte (Mc.crcReg x (s.data.toList.take k)) s[k]) := reg_succ x s k hlt
      go_wp2_with (first | (go_at_call 50; refine (step_impl _ _ _ hy).mono ?_; rintro e w' ⟨rfl, rfl⟩))
      go_round
      case rel => exact ⟨k + 1, by omega, by go_num, by rw [HS.out]⟩
      case measure => simp [intOf]; omega
    · obtain rfl : k = s.size := by omega
      have ht : s.data.toList.take s.size = s.data.toList := List.take_of_length_le (by simp)
      rw [ht] at hy ⊢
      have hx2 := max_xor _ hy
      have hyl := Mc.xor_lt hy (show 4294967295 < 4294967296 by omega)
      go_wp2
      go_ret
      exact ⟨by rw [HB.out]; rfl, rfl⟩

/-- What Crc answers. -/
def crc (s : ByteArray) : Nat := if 8000 < s.size then 0 else Mc.crcMore 0 s.data.toList
theorem crc_more (s : ByteArray) : crc s = more 0 s := by
  unfold crc more
  by_cases h : 8000 < s.size <;> simp [h]


set_option maxRecDepth 100000 in
theorem only_impl (s : ByteArray) (w : World) (hs : s.size ≤ maxLen) :
    Calls Try.prog 40 #[.string s] w fun e w' => e = .returned (.int .i64 (crc s : Nat)) ∧ w = w' := by
  rw [crc_more]
  go_enter Try.func40, Try.ntmps40
  go_wp2_with fail
  refine (more_impl 0 s _ (by omega) (by omega) hs).mono ?_
  rintro e w1 ⟨rfl, rfl⟩
  go_wp2
  go_ret
  exact ⟨rfl, rfl⟩

end Go.Proofs.Ytgmejbnolfmcdab.C5
