/-
  HashTo in the program.
-/
import Derived.Test.YthmlkbgnooahlaaDoorH0
import Derived.Test.YthmlkbgnooahlaaDoorKD
import Derived.Test.YthmlkbgnooahlaaDoorGH
namespace Go.Proofs.YthmlkbgnooahlaaDoor.H2
open Go.RowKit
open Go.Proofs.YthmlkbgnooahlaaDoor.C0
open Go.Proofs.YthmlkbgnooahlaaDoor.K2 (Laid)
open Go.Proofs.YthmlkbgnooahlaaDoor.K3 (bytesOf)
open Go.Proofs.YthmlkbgnooahlaaDoor.G1 (of_length)
open Go.Proofs.YthmlkbgnooahlaaDoor.G2

/-- A byte behind a number. -/
theorem wraps_i63 (n : Int) (h0 : 0 ≤ n) (h1 : n < 2 ^ 63) : IntKind.i64.wrap n = n := by rw [IntKind.wrap_i64]; omega
theorem six_small5 (d : List UInt8) (k : Nat) (h : k ≤ d.length) (h5 : k ≤ 5) : Sg.six d k ≤ 1099511627776 :=
  Nat.le_of_lt (Nat.lt_of_lt_of_le (Sg.six_lt d k h) (Nat.le_trans (Nat.pow_le_pow_right (by omega) h5) (by decide)))
theorem row6 (w1 : World) (x : ByteArray) (hx : x.size = 6) (cap k : Nat) (hk : k < 6) :
    ((w1.alloc (.cells (bytesRow x cap) 5 ((bytesRow x cap).size, (bytesRow x cap).size + 1))).drew).cell? ⟨w1.heap.size, k, none⟩ = some (.int .u8 ((x[k]'(by omega)).toNat : Int)) := by
  show (w1.alloc (.cells (bytesRow x cap) 5 ((bytesRow x cap).size, (bytesRow x cap).size + 1))).cell? ⟨w1.heap.size, k, none⟩ = _
  rw [World.cell?_alloc_mark, bytesRow_at _ _ _ (by simpa using (show k < x.size by omega))]
  simp
  rfl
theorem or_byte (x b : Nat) (hx : x ≤ 1099511627776) (hb : b < 256) : bits .or .i64 ((x : Int) * 256) (b : Int) = ((256 * x + b : Nat) : Int) := by
  rw [bits_join .i64 63 (by decide) wraps_i63 8 ((x : Int) * 256) (b : Int) (by omega) (by omega) (by omega) (by omega) (by omega) (by omega)]
  omega
theorem of_extract (d : ByteArray) : bytesOf (d.extract 0 6) = (bytesOf d).take 6 := by
  show (d.extract 0 6).data.toList = d.data.toList.take 6
  rw [ByteArray.data_extract, Array.toList_extract]
  simp
theorem extract_size (d : ByteArray) (h : d.size = 32) : (d.extract 0 6).size = 6 := by simp [h]
theorem six_take (d : List UInt8) (k : Nat) (h : k ≤ 6) : Sg.six (d.take 6) k = Sg.six d k := by
  unfold Sg.six; rw [List.take_take, Nat.min_eq_left h]

set_option maxRecDepth 100000 in
set_option maxHeartbeats 1600000 in
theorem hashto_impl (t : ByteArray) (m : Int) (w : World) (ht : t.size ≤ maxLen) (hL : Laid w) :
    Calls Tryd.prog 15 #[.string t, .int .i64 m] w fun e w' => e = .returned (.int .i64 (Sg.hashR (bytesOf t) m : Nat)) ∧ Below w.heap.size w w' := by
  have ht' := ht
  unfold maxLen at ht'
  by_cases hs : 8000 < t.size
  · rw [hashR_no (by rw [of_length]; omega)]
    have d1 : decide ((8000 : Int) < (t.size : Int)) = true := by simp; omega
    go_enter Tryd.func15, Tryd.ntmps15
    go_wp2
    go_ret
    exact ⟨rfl, Below.refl _ _⟩
  have d1 : decide ((8000 : Int) < (t.size : Int)) = false := by simp; omega
  by_cases hm : 1 ≤ m ∧ m ≤ 1000000
  · obtain ⟨m', rfl⟩ := Int.eq_ofNat_of_zero_le (show 0 ≤ m by omega)
    rw [hashR_yes (by rw [of_length]; omega) (by omega) (by omega)]
    have hd : KD.digestB t = Ms.digest (bytesOf t) := by unfold KD.digestB; rw [if_neg (by omega)]
    obtain ⟨d, hdd, sd, hh⟩ := G1.digest_get (bytesOf t)
    have HD : Hid ((⟨(KD.digestB t).toArray⟩ : ByteArray) = d) := by unfold Hid; rw [hd]; exact hdd
    have HH : Hid (Sg.six (bytesOf d) 6 % m' = Sg.hash (bytesOf t) m') := hh m'
    have HL : Hid ((bytesOf d).length = 32) := by unfold Hid; rw [of_length]; exact sd
    generalize Sg.hash (bytesOf t) m' = res at *
    clear hdd hh hd
    have hm0 : ((m' : Int) == 0) = false := by simp; omega
    go_enter Tryd.func15, Tryd.ntmps15
    go_wp2_with fail
    refine (H0.from_impl 1 _ 1000000 _).mono ?_
    rintro e w1 ⟨rfl, rfl⟩
    rw [yes2 hm]
    go_wp2_with fail
    refine (KD.digest_impl t _ ht hL).mono ?_
    rintro e w1 ⟨rfl, hb1⟩
    rw [HD.out]
    have HB : Hid (Below w.heap.size w w1) := hb1
    clear HD hb1
    have hbs := fun wx : World => run_bytes_of_string (P := Tryd.prog) wx 9 22 5 (d.extract 0 6) Tryd.underlying9 Tryd.underlying22 Tryd.underlying5
    have hcapge := grownCap_ge w1 6 0 5
    have HX : Hid (∀ k, k ≤ 6 → Sg.six (bytesOf (d.extract 0 6)) k = Sg.six (bytesOf d) k) := fun k hk => by rw [of_extract, six_take _ _ hk]
    have hxs := extract_size d sd
    go_wp2
    have hcell := row6 w1 (d.extract 0 6) hxs (grownCap w1 6 0 5)
    have hbel : Below w.heap.size w (w1.alloc (Obj.cells (bytesRow (d.extract 0 6) (grownCap w1 6 0 5)) 5 ((bytesRow (d.extract 0 6) (grownCap w1 6 0 5)).size, (bytesRow (d.extract 0 6) (grownCap w1 6 0 5)).size + 1))).drew := (HB.out.alloc HB.out.size _).drew
    generalize (w1.alloc (Obj.cells (bytesRow (d.extract 0 6) (grownCap w1 6 0 5)) 5 ((bytesRow (d.extract 0 6) (grownCap w1 6 0 5)).size, (bytesRow (d.extract 0 6) (grownCap w1 6 0 5)).size + 1))).drew = W at *
    generalize d.extract 0 6 = x at *
    clear hbs hcapge HB
    generalize grownCap w1 6 0 5 = cap at *
    have HW : Hid (Below w.heap.size w W) := hbel
    have HC : Hid (∀ k (h : k < 6), W.cell? ⟨w1.heap.size, k, none⟩ = some (.int .u8 ((x[k]'(by omega)).toNat : Int))) := hcell
    clear hbel hcell
    go_loop [5, 7, 21] (fun n _ i => ∃ k : Nat, k ≤ 6 ∧ i = .int .i64 k ∧ n = .int .i64 (Sg.six (bytesOf x) k : Nat)) (fun _ _ i => 6 - (intOf i).toNat)
    case atStart => exact ⟨0, by omega, rfl, rfl⟩
    case round =>
      obtain ⟨k, hk, rfl, rfl⟩ := hrel
      have hx := G1.six_small (bytesOf x) k (by rw [of_length]; omega) hk
      by_cases hlt : k < 6
      · have HS : Hid (Sg.six (bytesOf x) (k + 1) = 256 * Sg.six (bytesOf x) k + (x[k]'(by omega)).toNat) := G1.six_at x k (by omega)
        have hb := (x[k]'(by omega)).toNat_lt
        have hc := HC.out k hlt
        have hk5 := six_small5 (bytesOf x) k (by rw [of_length]; omega) (by omega)
        have hor := or_byte _ _ hk5 hb
        generalize (x[k]'(by omega)).toNat = c at *
        generalize Sg.six (bytesOf x) k = y at *
        go_wp2
        go_round
        case rel => exact ⟨k + 1, by omega, by go_num, by rw [HS.out]; go_num⟩
        case measure => simp [intOf]; omega
      · obtain rfl : k = 6 := by omega
        have HY : Hid (Sg.six (bytesOf x) 6 % m' = res) := by unfold Hid; rw [HX.out 6 (Nat.le_refl _)]; exact HH.out
        generalize Sg.six (bytesOf x) 6 = y at *
        go_wp2
        go_ret
        exact ⟨by rw [← HY.out]; go_num, HW.out⟩
  · rw [hashR_no (by omega)]
    go_enter Tryd.func15, Tryd.ntmps15
    go_wp2_with fail
    refine (H0.from_impl 1 _ 1000000 _).mono ?_
    rintro e w1 ⟨rfl, rfl⟩
    rw [no2 hm]
    go_wp2
    go_ret
    exact ⟨rfl, Below.refl _ _⟩
end Go.Proofs.YthmlkbgnooahlaaDoor.H2
