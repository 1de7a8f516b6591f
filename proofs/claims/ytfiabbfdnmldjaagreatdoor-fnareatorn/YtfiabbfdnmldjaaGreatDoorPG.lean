/-
  C2 C5 C6 C1: parts of the proof, one behind the other.
-/
import Derived.Test.YtfiabbfdnmldjaaGreatDoorPB
import Derived.Lib.BufferWrite
import Derived.Deep.OwnRows
import Derived.Laws.CopyOwn
import Derived.Test.YtfiabbfdnmldjaaGreatDoorPA
import Derived.Laws.BitsAllLaws
import Derived.Handy
/-
  What the program's function that joins texts answers: the texts one behind the other.
-/
namespace Go.Proofs.YtfiabbfdnmldjaaGreatDoor.C2
open Go.RowKit
open Go.Proofs.YtfiabbfdnmldjaaGreatDoor.C0
open Go.Lib (run_copy_row_string run_copy_empty_string)

/-- The texts one behind the other. -/
def cat : List ByteArray → List UInt8
  | [] => []
  | s :: r => s.data.toList ++ cat r
def total : List ByteArray → Nat
  | [] => 0
  | s :: r => s.size + total r
theorem cat_length : ∀ ss : List ByteArray, (cat ss).length = total ss
  | [] => rfl
  | s :: r => by simp only [cat, total, List.length_append, cat_length r]; rfl
theorem total_take_le : ∀ (ss : List ByteArray) (k : Nat), total (ss.take k) ≤ total ss
  | [], k => by simp [total]
  | s :: r, 0 => by simp [total]
  | s :: r, k + 1 => by have := total_take_le r k; simp only [List.take_succ_cons, total]; omega
theorem total_take_succ : ∀ (ss : List ByteArray) (k : Nat) (h : k < ss.length), total (ss.take (k + 1)) = total (ss.take k) + ss[k].size
  | s :: r, 0, h => by simp [total]
  | s :: r, k + 1, h => by
    have := total_take_succ r k (by simpa using h)
    simp only [List.take_succ_cons, total, List.getElem_cons_succ]; omega
theorem cat_take_succ : ∀ (ss : List ByteArray) (k : Nat) (h : k < ss.length), cat (ss.take (k + 1)) = cat (ss.take k) ++ ss[k].data.toList
  | s :: r, 0, h => by simp [cat]
  | s :: r, k + 1, h => by
    have := cat_take_succ r k (by simpa using h)
    simp only [List.take_succ_cons, cat, List.getElem_cons_succ, this, List.append_assoc]

/-- What holds at the head of a round that copies: the first texts lie in the row. -/
def Rel (ss : List ByteArray) (g : Nat) (w0 : World) (at_ i : Value) (w : World) : Prop :=
  ∃ (k : Nat) (cur : List Value), k ≤ ss.length ∧ i = .int .i64 k ∧ at_ = .int .i64 (total (ss.take k) : Nat) ∧ w.heap[g]? = some (.cells cur.toArray 5 (0, 0)) ∧ cur.length = total ss ∧
    cur.take (total (ss.take k)) = Lib.byteCells (cat (ss.take k)) ∧ Below g w0 w

theorem Rel.step {ss : List ByteArray} {g k : Nat} {w0 w : World} {cur : List Value} (hlt : k < ss.length) (hg : w.heap[g]? = some (.cells cur.toArray 5 (0, 0))) (hcl : cur.length = total ss)
    (hct : cur.take (total (ss.take k)) = Lib.byteCells (cat (ss.take k))) (hbel : Below g w0 w) :
    Rel ss g w0 (.int .i64 ((total (ss.take k) : Nat) + (ss[k].size : Nat))) (.int .i64 ((k + 1 : Nat) : Int)) (w.setRow g (cur.toArray.toList.take (total (ss.take k)) ++ Lib.byteCells ss[k].data.toList ++ cur.toArray.toList.drop (total (ss.take k) + ss[k].size)).toArray) ∧
    (ss[k].size = 0 → Rel ss g w0 (.int .i64 (total (ss.take k) : Nat)) (.int .i64 ((k + 1 : Nat) : Int)) w) := by
  have ht := total_take_succ ss k hlt
  have hle := total_take_le ss (k + 1)
  have hbl : (Lib.byteCells ss[k].data.toList).length = ss[k].size := by rw [Lib.byteCells_length]; rfl
  constructor
  · refine ⟨k + 1, _, hlt, rfl, by rw [ht]; simp, setRow_heap w g _ _ _ _ hg, ?_, ?_, below_setRow hbel (Nat.le_refl _) _⟩
    · simp [hbl]; omega
    · rw [ht, cat_take_succ ss k hlt, Lib.byteCells_append, ← hct]
      exact List.take_left' (by simp only [List.length_append, List.length_take, hbl]; omega)
  · intro h0
    have e : total (ss.take (k + 1)) = total (ss.take k) := by omega
    refine ⟨k + 1, cur, hlt, rfl, by rw [e], hg, hcl, ?_, hbel⟩
    have e2 : ss[k].data.toList = [] := by
      apply List.eq_nil_of_length_eq_zero; exact h0
    rw [e, cat_take_succ ss k hlt, e2, List.append_nil, hct]

set_option maxHeartbeats 800000 in
set_option maxRecDepth 100000 in
theorem joined_any (b off n cap : Nat) (ss : List ByteArray) (w : World) (hn : n = ss.length) (hb : b < w.heap.size) (hnm : n ≤ 1000) (ht : total ss ≤ 1000000)
    (hc : ∀ j, j < n → w.cell? ⟨b, off + j, none⟩ = some (.string (ss.getD j ByteArray.empty))) :
    Calls Tryz.prog 96 #[.slice (some ⟨b, off, none⟩) n cap] w fun e w' => e = .returned (.string ⟨(cat ss).toArray⟩) ∧ Below w.heap.size w w' := by
  subst hn
  go_enter Tryz.func96, Tryz.ntmps96
  go_wp2_with fail
  go_loop [3, 12] (fun s i => ∃ k : Nat, k ≤ ss.length ∧ i = .int .i64 k ∧ s = .int .i64 (total (ss.take k) : Nat)) (fun _ i => ss.length - (intOf i).toNat)
  case atStart => exact ⟨0, Nat.zero_le _, rfl, rfl⟩
  case round =>
    obtain ⟨k, hk, rfl, rfl⟩ := hrel
    have htk := total_take_le ss k
    by_cases hlt : k < ss.length
    · have hkl := hlt
      have hcell : w.cell? ⟨b, off + k, none⟩ = some (.string ss[k]) := by rw [hc k hlt]; simp [List.getD, hkl]
      have HT : Hid (total (ss.take (k + 1)) = total (ss.take k) + ss[k].size) := total_take_succ ss k hkl
      have hsz := total_take_le ss (k + 1)
      rw [HT.out] at hsz
      go_wp2
      go_round
      case rel => exact ⟨k + 1, by omega, by go_num, by rw [HT.out]; go_num⟩
      case measure => simp [intOf]; omega
    · obtain rfl : k = ss.length := by omega
      have htt : ss.take ss.length = ss := List.take_length
      have hmk := run_make_row' (P := Tryz.prog) 22 5 (.int .u8 0) 1 Tryz.underlying22 info_u8 rfl .i64 .i64 (total ss) (by omega) (by omega)
      go_wp2
      go_loopw [7, 25] (fun a i wr => Rel ss w.heap.size w a i wr) (fun _ i _ => ss.length - (intOf i).toNat)
      case atStart =>
        refine ⟨0, List.replicate (total ss) (.int .u8 0), Nat.zero_le _, rfl, rfl, ?_, by simp, by simp [total, cat, Lib.byteCells], (Below.refl _ _).alloc (Nat.le_refl _) _⟩
        have : madeCells #[.int .u8 0] (total ss) = (List.replicate (total ss) (.int .u8 0)).toArray := by
          rw [← toList_madeCells_one]
        rw [heap_alloc_new, this]
      case round =>
        obtain ⟨k, cur, hk, rfl, rfl, hg, hcl, hct, hbel⟩ := hrel
        have htk := total_take_le ss k
        by_cases hlt : k < ss.length
        · have hcell : wr.cell? ⟨b, off + k, none⟩ = some (.string ss[k]) := by rw [hbel.cell (by exact hb), hc k (by omega)]; simp [List.getD, hlt]
          have HT : Hid (total (ss.take (k + 1)) = total (ss.take k) + ss[k].size) := total_take_succ ss k hlt
          have hsz := total_take_le ss (k + 1)
          rw [HT.out] at hsz
          have hu8 : (Tryz.prog.info? 5).map (·.size) = some 1 := by kernel_rfl
          have hcp := run_copy_row_string (P := Tryz.prog) wr 22 9 3 5 w.heap.size (total (ss.take k)) (total ss - total (ss.take k)) (total ss - total (ss.take k)) ss[k] cur.toArray 5 Tryz.underlying22 hu8 hg (by omega) (by simp; omega)
          have hnew := Rel.step (w0 := w) hlt hg hcl hct hbel
          by_cases he : total ss = total (ss.take k)
          · have h0 : ss[k].size = 0 := by omega
            have hc0 := run_copy_empty_string (P := Tryz.prog) wr 22 9 3 5 (some ⟨w.heap.size, 0, none⟩) 0 0 ss[k] Tryz.underlying22 (by rw [hu8]; rfl) h0
            have HN : Hid (Rel ss w.heap.size w (.int .i64 (total (ss.take k) : Nat)) (.int .i64 ((k + 1 : Nat) : Int)) wr) := hnew.2 h0
            clear hnew hcp hg hcl hct HT h0
            go_wp2
            go_roundw
            case rel => exact HN.out
            case measure => simp [intOf]; omega
          · have HN : Hid (Rel ss w.heap.size w (.int .i64 ((total (ss.take k) : Nat) + (ss[k].size : Nat))) (.int .i64 ((k + 1 : Nat) : Int)) (wr.setRow w.heap.size (cur.toArray.toList.take (total (ss.take k)) ++ Lib.byteCells ss[k].data.toList ++ cur.toArray.toList.drop (total (ss.take k) + ss[k].size)).toArray)) := hnew.1
            clear hnew hg hcl hct HT
            go_wp2
            go_roundw
            case rel => simpa using HN.out
            case measure => simp [intOf]; omega
        · have hkk : k = ss.length := by omega
          subst hkk
          rw [htt] at hct
          have hown : owns w.heap.size (.slice (some ⟨w.heap.size, 0, none⟩) (total ss) (total ss)) (cat ss) wr := by
            unfold owns
            rw [cat_length]
            refine ⟨by simp [Mb.cells, cat_length], .inr ⟨_, total ss, cur.toArray, rfl, Nat.le_refl _, hg, Nat.le_refl _, by unfold maxLen; omega, by simp [hcl], ?_⟩⟩
            rw [Nat.mul_one, List.toList_toArray, hct]
            simp [Lib.byteCells, Mb.cells]
          have hconv := conv_own hown
          clear hct hg hown hcl
          go_wp2
          go_ret
          exact ⟨rfl, hbel⟩
end Go.Proofs.YtfiabbfdnmldjaaGreatDoor.C2

/-
  What the CRC's functions answer, in the specification and in the program.
-/
namespace Go.Proofs.YtfiabbfdnmldjaaGreatDoor.C5
open Go.RowKit
open Go.Proofs.YtfiabbfdnmldjaaGreatDoor.C0

theorem and_odd (r : Nat) (h : r < 4294967296) (h1 : r % 2 = 1) : bits .and .u32 (r : Int) 1 = 1 := by
  have := u32_and_nat r 1 h (by omega)
  rw [nat_mask1, h1] at this
  exact this
theorem and_even (r : Nat) (h : r < 4294967296) (h1 : ¬ r % 2 = 1) : bits .and .u32 (r : Int) 1 = 0 := by
  have := u32_and_nat r 1 h (by omega)
  rw [nat_mask1, show r % 2 = 0 by omega] at this
  exact this
theorem xor_ones (r : Nat) (h : r < 4294967296) : bits .xor .u32 (r : Int) 4294967295 = ((r ^^^ 4294967295 : Nat) : Int) := u32_xor_nat r 4294967295 h (by omega)
theorem max_xor (r : Nat) (h : r < 4294967296) : bits .xor .u32 IntKind.u32.max (r : Int) = ((r ^^^ 4294967295 : Nat) : Int) := by
  rw [Nat.xor_comm]; exact u32_xor_nat 4294967295 r (by omega) h
theorem xor_poly (r : Nat) (h : r < 4294967296) : bits .xor .u32 ((r : Int) / 2) 3988292384 = (((r / 2) ^^^ 3988292384 : Nat) : Int) := by
  have := u32_xor_nat (r / 2) 3988292384 (by omega) (by omega)
  exact this

set_option maxRecDepth 100000 in
set_option maxHeartbeats 800000 in
theorem step_impl (r : Nat) (c : UInt8) (w : World) (hr : r < 4294967296) :
    Calls Tryz.prog 120 #[.int .u32 r, .int .u8 c.toNat] w fun e w' => e = .returned (.int .u32 (Mc.crcByte r c : Nat)) ∧ w = w' := by
  have hc := c.toNat_lt
  have hx := u32_xor_nat r c.toNat hr (by omega)
  have hxl := Mc.xor_lt hr (Mc.byte_lt c)
  have HB : Hid (Mc.crcByte r c = Mc.iter 8 (r ^^^ c.toNat)) := rfl
  generalize r ^^^ c.toNat = x at *
  go_enter Tryz.func120, Tryz.ntmps120
  go_wp2
  go_loop [0, 10] (fun v i => ∃ k : Nat, k ≤ 8 ∧ i = .int .i64 k ∧ v = .int .u32 (Mc.iter k x : Nat)) (fun _ i => 8 - (intOf i).toNat)
  case atStart => exact ⟨0, Nat.zero_le _, rfl, rfl⟩
  case round =>
    obtain ⟨k, hk, rfl, rfl⟩ := hrel
    have hy := Mc.iter_lt k hxl
    have HS : Hid (Mc.iter (k + 1) x = Mc.bit1 (Mc.iter k x)) := rfl
    by_cases hlt : k < 8
    · have Hk : Hid (k < 8) := hlt
      by_cases ho : Mc.iter k x % 2 = 1
      · have e1 := and_odd _ hy ho
        have e2 := xor_poly _ hy
        have e3 : Hid (Mc.bit1 (Mc.iter k x) = (Mc.iter k x / 2) ^^^ 3988292384) := Mc.bit1_odd ho
        clear ho
        go_wp2
        go_round
        case rel => exact ⟨k + 1, by omega, by go_num, by rw [HS.out, e3.out]⟩
        case measure => simp [intOf]; omega
      · have e1 := and_even _ hy ho
        have e3 : Hid (Mc.bit1 (Mc.iter k x) = Mc.iter k x / 2) := Mc.bit1_even ho
        clear ho
        go_wp2
        go_round
        case rel => exact ⟨k + 1, by omega, by go_num, by rw [HS.out, e3.out]; go_num⟩
        case measure => simp [intOf]; omega
    · obtain rfl : k = 8 := by omega
      go_wp2
      go_ret
      exact ⟨by rw [HB.out]; rfl, rfl⟩

theorem take_snoc (s : ByteArray) (k : Nat) (h : k < s.size) : s.data.toList.take (k + 1) = s.data.toList.take k ++ [s[k]] := by
  rw [List.take_succ_eq_append_getElem (by simpa using h)]; rfl
theorem reg_succ (r : Nat) (s : ByteArray) (k : Nat) (h : k < s.size) : Mc.crcReg r (s.data.toList.take (k + 1)) = Mc.iter 8 (Mc.crcReg r (s.data.toList.take k) ^^^ s[k].toNat) := by
  rw [take_snoc s k h, Mc.crcReg_snoc]; rfl

set_option maxRecDepth 100000 in
set_option maxHeartbeats 800000 in
theorem crc_spec (crc : Nat) (s : ByteArray) (w : World) (hcrc : crc < 4294967296) (hs : s.size ≤ 8000) :
    Calls Tryz.prog 108 #[.int .i64 crc, .string s] w fun e w' => e = .returned (.int .i64 (Mc.crcMore crc s.data.toList : Nat)) ∧ w = w' := by
  have hx := xor_ones crc hcrc
  have hxl : crc ^^^ 4294967295 < 4294967296 := Mc.xor_lt hcrc (by omega)
  have HB : Hid (Mc.crcMore crc s.data.toList = Mc.crcReg (crc ^^^ 4294967295) s.data.toList ^^^ 4294967295) := rfl
  generalize crc ^^^ 4294967295 = x at *
  go_enter Tryz.func108, Tryz.ntmps108
  go_wp2
  go_loop [5, 6] (fun v i => ∃ k : Nat, k ≤ s.size ∧ i = .int .i64 k ∧ v = .int .u32 (Mc.crcReg x (s.data.toList.take k) : Nat)) (fun _ i => s.size - (intOf i).toNat)
  case atStart => exact ⟨0, Nat.zero_le _, rfl, by simp [Mc.crcReg]⟩
  case round =>
    obtain ⟨k, hk, rfl, rfl⟩ := hrel
    have hy := Mc.crcReg_lt (s.data.toList.take k) hxl
    by_cases hlt : k < s.size
    · have hx2 := u32_xor_nat _ s[k].toNat hy (Mc.byte_lt s[k])
      have hyl := Mc.xor_lt hy (Mc.byte_lt s[k])
      have HS : Hid (Mc.crcReg x (s.data.toList.take (k + 1)) = Mc.iter 8 (Mc.crcReg x (s.data.toList.take k) ^^^ s[k].toNat)) := reg_succ x s k hlt
      have hb := s[k].toNat_lt
      generalize Mc.crcReg x (s.data.toList.take k) ^^^ s[k].toNat = y at *
      go_wp2
      go_loop [5, 7] (fun v i => ∃ j : Nat, j ≤ 8 ∧ i = .int .i64 j ∧ v = .int .u32 (Mc.iter j y : Nat)) (fun _ i => 8 - (intOf i).toNat)
      case atStart => exact ⟨0, Nat.zero_le _, rfl, rfl⟩
      case round =>
        obtain ⟨j, hj, rfl, rfl⟩ := hrel
        have hz := Mc.iter_lt j hyl
        have HT : Hid (Mc.iter (j + 1) y = Mc.bit1 (Mc.iter j y)) := rfl
        by_cases hl8 : j < 8
        · by_cases ho : Mc.iter j y % 2 = 1
          · have e1 := and_odd _ hz ho
            have e2 := xor_poly _ hz
            have e3 : Hid (Mc.bit1 (Mc.iter j y) = (Mc.iter j y / 2) ^^^ 3988292384) := Mc.bit1_odd ho
            clear ho
            go_wp2
            go_round
            case rel => exact ⟨j + 1, by omega, by go_num, by rw [HT.out, e3.out]⟩
            case measure => simp [intOf]; omega
          · have e1 := and_even _ hz ho
            have e3 : Hid (Mc.bit1 (Mc.iter j y) = Mc.iter j y / 2) := Mc.bit1_even ho
            clear ho
            go_wp2
            go_round
            case rel => exact ⟨j + 1, by omega, by go_num, by rw [HT.out, e3.out]; go_num⟩
            case measure => simp [intOf]; omega
        · obtain rfl : j = 8 := by omega
          go_wp2
          go_round
          case rel => exact ⟨k + 1, by omega, by go_num, by rw [HS.out]⟩
          case measure => simp [intOf]; omega
    · obtain rfl : k = s.size := by omega
      have ht : s.data.toList.take s.size = s.data.toList := List.take_of_length_le (by simp)
      rw [ht] at hy ⊢
      have hx2 := xor_ones _ hy
      have hyl := Mc.xor_lt hy (show 4294967295 < 4294967296 by omega)
      go_wp2
      go_ret
      exact ⟨by rw [HB.out]; rfl, rfl⟩

/-- What CrcMore answers. -/
def more (crc : Int) (s : ByteArray) : Nat := if 8000 < s.size ∨ crc < 0 ∨ 4294967295 < crc then 0 else Mc.crcMore crc.toNat s.data.toList
theorem more_no {crc : Int} {s : ByteArray} (h : 8000 < s.size ∨ crc < 0 ∨ 4294967295 < crc) : more crc s = 0 := by simp [more, h]
theorem more_yes {crc : Int} {s : ByteArray} (h1 : ¬ 8000 < s.size) (h2 : ¬ crc < 0) (h3 : ¬ 4294967295 < crc) : more crc s = Mc.crcMore crc.toNat s.data.toList := by
  unfold more; rw [if_neg (by omega)]


set_option maxRecDepth 100000 in
set_option maxHeartbeats 800000 in
theorem more_impl (crc : Int) (s : ByteArray) (w : World) (l0 : -9223372036854775808 ≤ crc) (u0 : crc ≤ 9223372036854775807) (hs : s.size ≤ maxLen) :
    Calls Tryz.prog 117 #[.int .i64 crc, .string s] w fun e w' => e = .returned (.int .i64 (more crc s : Nat)) ∧ w = w' := by
  unfold maxLen at hs
  by_cases h1 : 8000 < s.size
  · rw [more_no (.inl h1)]
    have d1 : decide ((8000 : Int) < (s.size : Int)) = true := by simp; omega
    go_enter Tryz.func117, Tryz.ntmps117
    go_wp2
    go_ret
    exact ⟨rfl, rfl⟩
  have d1 : decide ((8000 : Int) < (s.size : Int)) = false := by simp; omega
  by_cases h2 : crc < 0
  · rw [more_no (.inr (.inl h2))]
    go_enter Tryz.func117, Tryz.ntmps117
    go_wp2
    go_ret
    exact ⟨rfl, rfl⟩
  have d2 : decide (crc < 0) = false := by simp; omega
  by_cases h3 : 4294967295 < crc
  · rw [more_no (.inr (.inr h3))]
    go_enter Tryz.func117, Tryz.ntmps117
    go_wp2
    go_ret
    exact ⟨rfl, rfl⟩
  have d3 : decide ((4294967295 : Int) < crc) = false := by simp; omega
  rw [more_yes h1 h2 h3]
  obtain ⟨n, rfl⟩ := Int.eq_ofNat_of_zero_le (show 0 ≤ crc by omega)
  have hn : n < 4294967296 := by omega
  have hx := max_xor n hn
  have hxl : n ^^^ 4294967295 < 4294967296 := Mc.xor_lt hn (by omega)
  have HB : Hid (Mc.crcMore n s.data.toList = Mc.crcReg (n ^^^ 4294967295) s.data.toList ^^^ 4294967295) := rfl
  simp only [Int.toNat_natCast]
  generalize n ^^^ 4294967295 = x at *
  go_enter Tryz.func117, Tryz.ntmps117
  go_wp2
  go_loop [5, 6] (fun v i => ∃ k : Nat, k ≤ s.size ∧ i = .int .i64 k ∧ v = .int .u32 (Mc.crcReg x (s.data.toList.take k) : Nat)) (fun _ i => s.size - (intOf i).toNat)
  case atStart => exact ⟨0, Nat.zero_le _, rfl, by simp [Mc.crcReg]⟩
  case round =>
    obtain ⟨k, hk, rfl, rfl⟩ := hrel
    have hy := Mc.crcReg_lt (s.data.toList.take k) hxl
    by_cases hlt : k < s.size
    · have HS : Hid (Mc.crcReg x (s.data.toList.take (k + 1)) = Mc.crcByte (Mc.crcReg x (s.data.toList.take k)) s[k]) := reg_succ x s k hlt
      go_wp2_with (first | (go_at_call 120; refine (step_impl _ _ _ hy).mono ?_; rintro e w' ⟨rfl, rfl⟩))
      go_round
      case rel => exact ⟨k + 1, by omega, by go_num, by rw [HS.out]⟩
      case measure => simp [intOf]; omega
    · obtain rfl : k = s.size := by omega
      have ht : s.data.toList.take s.size = s.data.toList := List.take_of_length_le (by simp)
      rw [ht] at hy ⊢
      have hx2 := max_xor _ hy
      have hyl := Mc.xor_lt hy (show 4294967295 < 4294967296 by omega)
      go_wp2
      go_ret
      exact ⟨by rw [HB.out]; rfl, rfl⟩

/-- What Crc answers. -/
def crc (s : ByteArray) : Nat := if 8000 < s.size then 0 else Mc.crcMore 0 s.data.toList
theorem crc_more (s : ByteArray) : crc s = more 0 s := by
  unfold crc more
  by_cases h : 8000 < s.size <;> simp [h]


set_option maxRecDepth 100000 in
theorem only_impl (s : ByteArray) (w : World) (hs : s.size ≤ maxLen) :
    Calls Tryz.prog 110 #[.string s] w fun e w' => e = .returned (.int .i64 (crc s : Nat)) ∧ w = w' := by
  rw [crc_more]
  go_enter Tryz.func110, Tryz.ntmps110
  go_wp2_with fail
  refine (more_impl 0 s _ (by omega) (by omega) hs).mono ?_
  rintro e w1 ⟨rfl, rfl⟩
  go_wp2
  go_ret
  exact ⟨rfl, rfl⟩

end Go.Proofs.YtfiabbfdnmldjaaGreatDoor.C5

/-
  What Seal and Unseal answer, in the specification and in the program.
-/
namespace Go.Proofs.YtfiabbfdnmldjaaGreatDoor.C6
open Go.RowKit
open Go.Proofs.YtfiabbfdnmldjaaGreatDoor.C0

/-- The four bytes of a number, the lowest first. -/
def four (n : Nat) : List UInt8 := [UInt8.ofNat n, UInt8.ofNat (n / 256), UInt8.ofNat (n / 65536), UInt8.ofNat (n / 16777216)]
def sealed (l : List UInt8) : List UInt8 := l ++ four (Mc.crcMore 0 l)
/-- What Seal answers. -/
def sealOf (s : ByteArray) : List UInt8 := if 7996 < s.size then [] else sealed s.data.toList

theorem owns_lit (base : Nat) (w : World) (l : List UInt8) (cs : Array Value) (n : Nat) (hb : base ≤ w.heap.size) (hn : l.length = n) (hm : n ≤ maxLen) (hc : cs.toList = (Mb.cells l).map (Value.int .u8)) :
    owns base (.slice (some ⟨w.heap.size, 0, none⟩) n n) l (w.alloc (.cells cs 5)) := by
  subst hn
  unfold owns
  rw [← hc]
  refine World.ownsRow_lit w cs l.length hb hm ?_
  have := congrArg List.length hc
  simpa [Mb.cells] using this

theorem four_cells (n : Nat) (hn : n < 4294967296) :
    [Value.int .u8 ((n : Int) % 256), .int .u8 ((n : Int) / 256 % 256), .int .u8 ((n : Int) / 65536 % 256), .int .u8 ((n : Int) / 16777216)] = (Mb.cells (four n)).map (Value.int .u8) := by
  simp only [Mb.cells, four, List.map_cons, List.map_nil, UInt8.toNat_ofNat', List.cons.injEq, Value.int.injEq, and_true, true_and]
  omega
theorem four_cells' (n : Nat) (hn : n < 4294967296) :
    [Value.int .u8 ((n : Int) % 256), .int .u8 ((n : Int) / 256 % 256), .int .u8 ((n : Int) / 256 / 256 % 256), .int .u8 ((n : Int) / 256 / 256 / 256)] = (Mb.cells (four n)).map (Value.int .u8) := by
  rw [← four_cells n hn]
  simp only [List.cons.injEq, Value.int.injEq, and_true, true_and]
  omega

set_option maxRecDepth 100000 in
theorem four_spec (n : Nat) (w : World) (hn : n < 4294967296) :
    Calls Tryz.prog 107 #[.int .i64 n] w fun e w' => e = .returned (.string ⟨(four n).toArray⟩) ∧ Below w.heap.size w w' := by
  have hconv := conv_own (owns_lit w.heap.size w (four n) #[Value.int .u8 ((n : Int) % 256), .int .u8 ((n : Int) / 256 % 256), .int .u8 ((n : Int) / 65536 % 256), .int .u8 ((n : Int) / 16777216)] 4 (Nat.le_refl _) rfl (by decide) (four_cells n hn))
  go_enter Tryz.func107, Tryz.ntmps107
  go_wp2
  go_ret
  exact ⟨rfl, (Below.refl _ _).alloc (Nat.le_refl _) _⟩

theorem size_mk (l : List UInt8) : (⟨l.toArray⟩ : ByteArray).size = l.length := by simp [ByteArray.size]
theorem join_text (s : ByteArray) (a : List UInt8) : s ++ (⟨a.toArray⟩ : ByteArray) = ⟨(s.data.toList ++ a).toArray⟩ := by
  apply ByteArray.ext
  simp [ByteArray.data_append]
theorem seal_no {s : ByteArray} (h : 7996 < s.size) : sealOf s = [] := by simp [sealOf, h]
theorem seal_yes {s : ByteArray} (h : ¬ 7996 < s.size) : sealOf s = s.data.toList ++ four (Mc.crcMore 0 s.data.toList) := by simp [sealOf, sealed, h]

set_option maxRecDepth 100000 in
theorem seal_spec (s : ByteArray) (w : World) (hs : s.size ≤ maxLen) :
    Calls Tryz.prog 86 #[.string s] w fun e w' => e = .returned (.string ⟨(sealOf s).toArray⟩) ∧ Below w.heap.size w w' := by
  unfold maxLen at hs
  by_cases h : 7996 < s.size
  · rw [seal_no h]
    go_enter Tryz.func86, Tryz.ntmps86
    go_wp2
    go_ret
    exact ⟨rfl, Below.refl _ _⟩
  · have HS : Hid (sealOf s = s.data.toList ++ four (Mc.crcMore 0 s.data.toList)) := seal_yes h
    have hlt := Mc.crcMore_lt 0 s.data.toList (by omega)
    have hcc : s.size + (⟨(four (Mc.crcMore 0 s.data.toList)).toArray⟩ : ByteArray).size ≤ 9223372036854775807 := by rw [size_mk (four _)]; simp [four]; omega
    go_enter Tryz.func86, Tryz.ntmps86
    go_wp2_with fail
    refine (C5.crc_spec 0 s _ (by omega) (by omega)).mono ?_
    rintro e w1 ⟨rfl, rfl⟩
    go_wp2_with fail
    refine (four_spec _ _ hlt).mono ?_
    rintro e w1 ⟨rfl, hb1⟩
    go_wp2
    go_ret
    exact ⟨by rw [HS.out, ← join_text]; rfl, hb1⟩

theorem made4 (w : World) : (Instr.makeSlice 22 (.int .i64 4) (.int .i64 4)).run Tryz.prog w = .ok (.slice (some ⟨w.heap.size, 0, none⟩) 4 4) (w.alloc (.cells #[.int .u8 0, .int .u8 0, .int .u8 0, .int .u8 0] 5)) := by kernel_rfl

set_option maxRecDepth 100000 in
set_option maxHeartbeats 800000 in
theorem seal_impl (s : ByteArray) (w : World) (hs : s.size ≤ maxLen) :
    Calls Tryz.prog 95 #[.string s] w fun e w' => e = .returned (.string ⟨(sealOf s).toArray⟩) ∧ Below w.heap.size w w' := by
  have hs' := hs
  unfold maxLen at hs
  by_cases h : 7996 < s.size
  · rw [seal_no h]
    go_enter Tryz.func95, Tryz.ntmps95
    go_wp2
    go_ret
    exact ⟨rfl, Below.refl _ _⟩
  · have HS : Hid (sealOf s = s.data.toList ++ four (Mc.crcMore 0 s.data.toList)) := seal_yes h
    have hcr : Hid (C5.crc s = Mc.crcMore 0 s.data.toList) := by unfold Hid C5.crc; rw [if_neg (by omega)]
    have hlt := Mc.crcMore_lt 0 s.data.toList (by omega)
    have hmk := made4
    go_enter Tryz.func95, Tryz.ntmps95
    go_wp2_with fail
    refine (C5.only_impl s _ hs').mono ?_
    rintro e w1 ⟨rfl, rfl⟩
    rw [hcr.out]
    clear hcr
    generalize Mc.crcMore 0 s.data.toList = n at *
    have hconv := conv_own (owns_lit w.heap.size w (four n) #[Value.int .u8 ((n : Int) % 256), .int .u8 ((n : Int) / 256 % 256), .int .u8 ((n : Int) / 256 / 256 % 256), .int .u8 ((n : Int) / 256 / 256 / 256)] 4 (Nat.le_refl _) rfl (by decide) (four_cells' n hlt))
    go_wp2_with fail
    refine wp_loop_rounds 5 ?_
    iterate 5 (rw [rounds_succ]; go_wp2_with fail)
    refine (C2.joined_any (w.heap.size + 1) 0 2 2 [s, ⟨(four n).toArray⟩] _ rfl (by simp) (by omega) ?_ ?_).mono ?_
    · show s.size + ((⟨(four n).toArray⟩ : ByteArray).size + 0) ≤ 1000000
      rw [size_mk (four n)]; simp [four]; omega
    · intro j hj
      match j, hj with
      | 0, _ => go_simp
      | 1, _ => go_simp
    rintro e w2 ⟨rfl, hb2⟩
    go_wp2
    go_ret
    refine ⟨?_, (((Below.refl _ _).alloc (Nat.le_refl _) _).alloc (by simp) _).trans (hb2.mono (by simp; omega))⟩
    rw [HS.out]; simp [C2.cat]
end Go.Proofs.YtfiabbfdnmldjaaGreatDoor.C6

/-
  What the functions that write a number in bytes answer, in the specification and in the program: the bytes of seven bits, lowest first.
-/
namespace Go.Proofs.YtfiabbfdnmldjaaGreatDoor.C1
open Go.RowKit
open Go.Proofs.YtfiabbfdnmldjaaGreatDoor.C0

theorem fold_spec (n : Int) (w : World) (h1 : -9223372036854775808 ≤ n) (h2 : n ≤ 9223372036854775807) :
    Calls Tryz.prog 109 #[.int .i64 n] w fun e w' => e = .returned (.int .u64 (Mb.foldU n : Nat)) ∧ w = w' := by
  by_cases h : n < 0
  all_goals
    go_enter Tryz.func109, Tryz.ntmps109
    go_wp2
    go_ret
  · exact ⟨ret_int (Mb.foldU_neg n h).symm, rfl⟩
  · exact ⟨ret_int (Mb.foldU_pos n (by omega)).symm, rfl⟩
theorem fold_impl (n : Int) (w : World) (h1 : -9223372036854775808 ≤ n) (h2 : n ≤ 9223372036854775807) :
    Calls Tryz.prog 116 #[.int .i64 n] w fun e w' => e = .returned (.int .u64 (Mb.foldU n : Nat)) ∧ w = w' := by
  by_cases h : n < 0
  all_goals
    go_enter Tryz.func116, Tryz.ntmps116
    go_wp2
    go_ret
  · exact ⟨ret_int (Mb.foldU_neg n h).symm, rfl⟩
  · exact ⟨ret_int (Mb.foldU_pos n (by omega)).symm, rfl⟩

/-- What holds at the head of a round: the bytes made so far, and what is left of the number. -/
def Rel (u : Nat) (base : Nat) (w0 : World) (x : Value) (b : Value) (w : World) : Prop :=
  ∃ (f : Nat) (pre : List UInt8) (v : Nat), pre.length + f = 9 ∧ v < 2 * 128 ^ f ∧ Mb.leb 9 u = pre ++ Mb.leb f v ∧ x = .int .u64 (v : Nat) ∧ owns base b pre w ∧ Below base w0 w ∧ base ≤ w.heap.size

theorem byte_more (v : Nat) : (v : Int) % 128 + 128 = ((UInt8.ofNat (v % 128 + 128)).toNat : Int) := by
  simp [UInt8.toNat_ofNat']; omega
theorem byte_last (v : Nat) (h : v < 128) : (v : Int) = ((UInt8.ofNat v).toNat : Int) := by
  simp [UInt8.toNat_ofNat']; omega

/-- One round more. -/
theorem Rel.step {u base : Nat} {w0 w w1 : World} {b b' : Value} {f v : Nat} {pre : List UInt8} (hf : pre.length + f = 9) (hv : v < 2 * 128 ^ f)
    (hl : Mb.leb 9 u = pre ++ Mb.leb f v) (h128 : 128 ≤ v) (c : UInt8) (hc : c = UInt8.ofNat (v % 128 + 128)) (o : Obj) (hown : owns base b pre w) (hbel : Below base w0 w) (hbs : base ≤ w.heap.size)
    (h1 : w1.ownsRow base 5 1 b' (pre.length + 1) ((Mb.cells pre).map (Value.int .u8) ++ [.int .u8 (c.toNat : Int)])) (hg : (w.alloc o).grownBy w1 b.ownBlock) :
    Rel u base w0 (.int .u64 ((v / 128 : Nat) : Int)) b' w1 := by
  obtain ⟨g, rfl⟩ : ∃ g, f = g + 1 := by
    cases f with
    | zero => exact absurd (Mb.pow_zero_lt v hv) (by omega)
    | succ g => exact ⟨g, rfl⟩
  subst hc
  refine ⟨g, pre ++ [UInt8.ofNat (v % 128 + 128)], v / 128, by simp; omega, Mb.pow_step g v hv, by rw [hl, Mb.leb_great g v h128]; simp, rfl, owns_snoc _ h1, ?_, ?_⟩
  · exact (hbel.alloc hbs o).grown hg (by simp; omega) (fun k hk => (hown.lt k hk).1)
  · have := hg.size; simp at this; omega

theorem last_text {u f v : Nat} {pre : List UInt8} (hl : Mb.leb 9 u = pre ++ Mb.leb f v) (h : v < 128) : Mb.leb 9 u = pre ++ [UInt8.ofNat v] := by
  rw [hl, Mb.leb_small f v h]

set_option maxHeartbeats 800000 in
set_option maxRecDepth 100000 in
theorem put_spec (n : Int) (w : World) (h1 : -9223372036854775808 ≤ n) (h2 : n ≤ 9223372036854775807) :
    Calls Tryz.prog 87 #[.int .i64 n] w fun e w' => e = .returned (.string ⟨(Mb.putNum n).toArray⟩) ∧ Below w.heap.size w w' := by
  have hlt := Mb.foldU_lt n h1 h2
  obtain ⟨i0, hi, hz0, hz1, hz2⟩ := info_parts info_u8
  go_enter Tryz.func87, Tryz.ntmps87
  go_wp2_with fail
  refine (fold_spec n _ h1 h2).mono ?_
  rintro e w' ⟨rfl, rfl⟩
  go_wp2_with fail
  go_loopw [3, 4] (fun x b wr => Rel (Mb.foldU n) w.heap.size w x b wr) (fun x _ _ => (intOf x).toNat)
  case atStart => exact ⟨9, [], Mb.foldU n, rfl, hlt, rfl, rfl, owns_lit0 _ _ (Nat.le_refl _), (Below.refl _ _).alloc (Nat.le_refl _) _, by simp⟩
  case round =>
    obtain ⟨f, pre, v, hf, hv, hl, rfl, hown, hbel, hbs⟩ := hrel
    have hvb := Mb.bound_lt f v (by omega) hv
    have HL : Hid (Mb.leb 9 (Mb.foldU n) = pre ++ Mb.leb f v) := hl
    clear hl
    by_cases h128 : 128 ≤ v
    · go_wp2_with (first
        | (at_builtin; refine wpList_append_own _ rfl _ _ 22 rfl w.heap.size 5 i0 (.int .u8 0) 1 1 Tryz.underlying22 hi hz0 hz1 hz2 rfl (by decide) _ _ _ rfl (hown.alloc _) ⟨wr.heap.size, 0, none⟩ 1 1 [_] rfl rfl (cell_one_new _ _ _) ?c2 ?c3 ?c4 ?c5 ?_))
      case c2 => intro u hu; simp at hu; subst hu; rfl
      case c3 => unfold maxLen; omega
      case c4 => omega
      case c5 => simp; omega
      intro v' w1 hown' hgrow _
      go_wp2
      go_roundw
      case rel =>
        refine Rel.step hf hv HL.out h128 _ rfl _ hown hbel hbs ?_ hgrow
        rw [← byte_more]; exact hown'
      case measure => simp [intOf]; omega
    · have hfin : Hid (Mb.leb 9 (Mb.foldU n) = pre ++ [UInt8.ofNat v]) := last_text HL.out (by omega)
      go_wp2_with (first
        | (at_builtin; refine wpList_append_own _ rfl _ _ 22 rfl w.heap.size 5 i0 (.int .u8 0) 1 1 Tryz.underlying22 hi hz0 hz1 hz2 rfl (by decide) _ _ _ rfl (hown.alloc _) ⟨wr.heap.size, 0, none⟩ 1 1 [_] rfl rfl (cell_one_new _ _ _) ?c2 ?c3 ?c4 ?c5 ?_))
      case c2 => intro u hu; simp at hu; subst hu; rfl
      case c3 => unfold maxLen; omega
      case c4 => omega
      case c5 => simp; omega
      intro v' w1 hown' hgrow _
      have ho2 : owns w.heap.size v' (pre ++ [UInt8.ofNat v]) w1 := owns_snoc _ (by rw [← byte_last v (by omega)]; exact hown')
      have hconv := conv_own ho2
      have hb1 : Below w.heap.size w w1 := (hbel.alloc hbs _).grown hgrow (by simp; omega) (fun k hk => (hown.lt k hk).1)
      clear hown' hgrow ho2
      go_wp2
      go_ret
      exact ⟨ret_str hfin.out.symm, hb1⟩
set_option maxHeartbeats 800000 in
set_option maxRecDepth 100000 in
theorem put_impl (n : Int) (w : World) (h1 : -9223372036854775808 ≤ n) (h2 : n ≤ 9223372036854775807) :
    Calls Tryz.prog 106 #[.int .i64 n] w fun e w' => e = .returned (.string ⟨(Mb.putNum n).toArray⟩) ∧ Below w.heap.size w w' := by
  have hlt := Mb.foldU_lt n h1 h2
  obtain ⟨i0, hi, hz0, hz1, hz2⟩ := info_parts info_u8
  go_enter Tryz.func106, Tryz.ntmps106
  go_wp2_with fail
  refine (fold_impl n _ h1 h2).mono ?_
  rintro e w' ⟨rfl, rfl⟩
  go_wp2_with fail
  go_loopw [3, 4] (fun b x wr => Rel (Mb.foldU n) w.heap.size w x b wr) (fun _ x _ => (intOf x).toNat)
  case atStart => exact ⟨9, [], Mb.foldU n, rfl, hlt, rfl, rfl, owns_nil _ _, Below.refl _ _, Nat.le_refl _⟩
  case round =>
    obtain ⟨f, pre, v, hf, hv, hl, rfl, hown, hbel, hbs⟩ := hrel
    have hvb := Mb.bound_lt f v (by omega) hv
    have HL : Hid (Mb.leb 9 (Mb.foldU n) = pre ++ Mb.leb f v) := hl
    clear hl
    by_cases h128 : 128 ≤ v
    · go_wp2_with (first
        | (at_builtin; refine wpList_append_own _ rfl _ _ 22 rfl w.heap.size 5 i0 (.int .u8 0) 1 1 Tryz.underlying22 hi hz0 hz1 hz2 rfl (by decide) _ _ _ rfl (hown.alloc _) ⟨wr.heap.size, 0, none⟩ 1 1 [_] rfl rfl (cell_one_new _ _ _) ?c2 ?c3 ?c4 ?c5 ?_))
      case c2 => intro u hu; simp at hu; subst hu; rfl
      case c3 => unfold maxLen; omega
      case c4 => omega
      case c5 => simp; omega
      intro v' w1 hown' hgrow _
      go_wp2
      go_roundw
      case rel =>
        refine Rel.step hf hv HL.out h128 _ rfl _ hown hbel hbs ?_ hgrow
        rw [← byte_more]; exact hown'
      case measure => simp [intOf]; omega
    · have hfin : Hid (Mb.leb 9 (Mb.foldU n) = pre ++ [UInt8.ofNat v]) := last_text HL.out (by omega)
      go_wp2_with (first
        | (at_builtin; refine wpList_append_own _ rfl _ _ 22 rfl w.heap.size 5 i0 (.int .u8 0) 1 1 Tryz.underlying22 hi hz0 hz1 hz2 rfl (by decide) _ _ _ rfl (hown.alloc _) ⟨wr.heap.size, 0, none⟩ 1 1 [_] rfl rfl (cell_one_new _ _ _) ?c2 ?c3 ?c4 ?c5 ?_))
      case c2 => intro u hu; simp at hu; subst hu; rfl
      case c3 => unfold maxLen; omega
      case c4 => omega
      case c5 => simp; omega
      intro v' w1 hown' hgrow _
      have ho2 : owns w.heap.size v' (pre ++ [UInt8.ofNat v]) w1 := owns_snoc _ (by rw [← byte_last v (by omega)]; exact hown')
      have hconv := conv_own ho2
      have hb1 : Below w.heap.size w w1 := (hbel.alloc hbs _).grown hgrow (by simp; omega) (fun k hk => (hown.lt k hk).1)
      clear hown' hgrow ho2
      go_wp2
      go_ret
      exact ⟨ret_str hfin.out.symm, hb1⟩
end Go.Proofs.YtfiabbfdnmldjaaGreatDoor.C1
