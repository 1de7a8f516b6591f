/-
  A number, or a text, is got back from its bytes, with the place behind it; of bytes that end too early nothing is got.
-/
import Derived.Test.YteehgicnfageiaaDoorCK
import Derived.Test.YteehgicnfageiaaDoorQB
import Derived.Test.YteehgicnfageiaaDoorQA
import Derived.Lib.IndexBytes
namespace Go.Proofs.YteehgicnfageiaaDoor.CL
open Go.RowKit
open Go.Proofs.YteehgicnfageiaaDoor.CH Go.Proofs.YteehgicnfageiaaDoor.CK

theorem num_back (n : Int) (pre post : List UInt8) (h1 : -9223372036854775808 ≤ n) (h2 : n ≤ 9223372036854775807) (hs : (pre ++ Mb.putNum n ++ post).length ≤ 8000) :
    tr ⟨(pre ++ Mb.putNum n ++ post).toArray⟩ (pre.length : Nat) = (n, pre.length + (Mb.putNum n).length, 0) := by
  unfold tr
  rw [if_neg (by rw [Mn.mk_size]; omega), if_neg (by omega), Int.toNat_natCast, Mn.get_put n pre post h1 h2, if_pos rfl]
  show (Mg.unfoldI (Mb.foldU n), _, _) = _
  rw [Mn.unfold_fold]
theorem num_cut (n : Int) (h1 : -9223372036854775808 ≤ n) (h2 : n ≤ 9223372036854775807) : tr ⟨(Mb.putNum n).dropLast.toArray⟩ 0 = (0, 0, 4) := by
  have hl := (Mb.leb_len 9 (Mb.foldU n)).2
  unfold tr
  rw [if_neg (by rw [Mn.mk_size, List.length_dropLast]; unfold Mb.putNum; omega), if_neg (by omega), show (0 : Int).toNat = 0 from rfl, Mn.get_cut n h1 h2, if_neg (by decide)]

theorem put_list {u : ByteArray} (h : u.size ≤ 8000) : C3.putText u = Mb.putNum u.size ++ u.data.toList := by
  unfold C3.putText; rw [if_neg (by omega)]
theorem text_back {u : ByteArray} (h : u.size ≤ 8000) (hs : (C3.putText u).length + 1 ≤ 8000) :
    textOf ⟨(120 :: C3.putText u).toArray⟩ 1 = textOut u ((C3.putText u).length + 1) 0 := by
  have e := put_list h
  have hT : tr ⟨(120 :: C3.putText u).toArray⟩ 1 = ((u.size : Int), 1 + (Mb.putNum u.size).length, 0) := by
    have := num_back (u.size : Int) [120] u.data.toList (by omega) (by omega) (by rw [List.append_assoc, ← e]; simpa using hs)
    rw [List.append_assoc, ← e] at this
    exact this
  have hl : (C3.putText u).length = (Mb.putNum u.size).length + u.size := by rw [e, List.length_append]; rfl
  unfold textOf
  rw [tx_good hT (by omega) (by rw [Mn.mk_size, List.length_cons, hl]; omega)]
  rw [Int.toNat_natCast]
  congr 1
  · apply ByteArray.ext
    apply Array.ext'
    rw [Lib.extract_data]
    show ((120 :: C3.putText u).drop (1 + (Mb.putNum u.size).length)).take _ = _
    rw [e, Nat.add_comm 1, List.drop_succ_cons, List.drop_left, Nat.add_sub_cancel_left]
    exact List.take_of_length_le (Nat.le_refl _)
  · show ((1 + (Mb.putNum u.size).length : Nat) : Int) + (u.size : Int) = _
    rw [hl]; omega
theorem text_cut {u : ByteArray} (h : u.size ≤ 8000) (hs : (C3.putText u).length ≤ 8000) : textOf ⟨(C3.putText u).dropLast.toArray⟩ 0 = textOut ⟨#[]⟩ 0 4 := by
  have e := put_list h
  unfold textOf
  by_cases h0 : u.size = 0
  · have hu : u.data.toList = [] := List.eq_nil_of_length_eq_zero h0
    rw [e, hu, List.append_nil]
    rw [tx_bad (num_cut (u.size : Int) (by omega) (by omega)) (by omega)]
    rfl
  · have hne : u.data.toList ≠ [] := fun e' => h0 (by have := congrArg List.length e'; exact this)
    have ed : (C3.putText u).dropLast = Mb.putNum u.size ++ u.data.toList.dropLast := by rw [e, List.dropLast_append_of_ne_nil hne]
    have hl : (Mb.putNum u.size ++ u.data.toList.dropLast).length = (Mb.putNum u.size).length + (u.size - 1) := by rw [List.length_append, List.length_dropLast]; rfl
    have hT : tr ⟨(Mb.putNum u.size ++ u.data.toList.dropLast).toArray⟩ 0 = ((u.size : Int), (Mb.putNum u.size).length, 0) := by
      have := num_back (u.size : Int) [] u.data.toList.dropLast (by omega) (by omega) (by rw [List.nil_append, hl]; rw [e, List.length_append] at hs; have : u.data.toList.length = u.size := rfl; omega)
      rw [List.nil_append, List.length_nil, Nat.zero_add] at this
      exact this
    rw [ed, tx_short hT (by omega) (by rw [Mn.mk_size, hl]; omega)]
    rfl
end Go.Proofs.YteehgicnfageiaaDoor.CL
