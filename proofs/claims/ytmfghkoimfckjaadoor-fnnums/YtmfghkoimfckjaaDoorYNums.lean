/-
  The walk of the law on numbers and texts.
-/
import Derived.Test.YtmfghkoimfckjaaDoorD4
import Derived.Test.YtmfghkoimfckjaaDoorCL
import Derived.Laws.StructEq
import Derived.Laws.Concat
namespace Go.Proofs.YtmfghkoimfckjaaDoor.YNums
open Go.RowKit
open Go.Proofs.YtmfghkoimfckjaaDoor.C0
open Go.Proofs.YtmfghkoimfckjaaDoor.D0

theorem field_num (a b c : Int) (w : World) : (Instr.field 26 (.agg #[.int .i64 a, .int .i64 b, .int .i64 c]) 2).run Tryd.prog w = .ok (.int .i64 c) w := by kernel_rfl
theorem field_text (a : ByteArray) (b c : Int) (w : World) : (Instr.field 31 (.agg #[.string a, .int .i64 b, .int .i64 c]) 2).run Tryd.prog w = .ok (.int .i64 c) w := by kernel_rfl

theorem mid_text (l : List UInt8) : ((⟨#[120, 121]⟩ : ByteArray) ++ ⟨l.toArray⟩ ++ ⟨#[122]⟩) = ⟨([120, 121] ++ l ++ [122]).toArray⟩ := by
  rw [show (⟨#[120, 121]⟩ : ByteArray) = ⟨([120, 121] : List UInt8).toArray⟩ from rfl, show (⟨#[122]⟩ : ByteArray) = ⟨([122] : List UInt8).toArray⟩ from rfl, ByteArray.mk_append_mk, ByteArray.mk_append_mk]
theorem x_text (l : List UInt8) : ((⟨#[120]⟩ : ByteArray) ++ ⟨l.toArray⟩) = ⟨(120 :: l).toArray⟩ := by
  rw [show (⟨#[120]⟩ : ByteArray) = ⟨([120] : List UInt8).toArray⟩ from rfl, ByteArray.mk_append_mk]; rfl
theorem cut_text (l : List UInt8) : (⟨l.toArray⟩ : ByteArray).extract 0 (l.length - 1) = ⟨l.dropLast.toArray⟩ := by
  apply ByteArray.ext
  apply Array.ext'
  rw [Lib.extract_data]
  simp [List.dropLast_eq_take]
theorem num_value (s : ByteArray) (a N : Int) (A c : Nat) (h : CK.tr s a = (N, A, c)) : CH.numOf s a = CH.numOut N A c := by rw [CK.tr_num, h]

set_option maxRecDepth 100000 in
set_option maxHeartbeats 1600000 in
theorem walk (a0 a1 : Option Addr) (n0 n1 c0 c1 : Nat) (w : World) (hL : CF.Laid w) (h0 : IsCode w.heap.size w (.slice a0 n0 c0) n0) (h1 : IsCode w.heap.size w (.slice a1 n1 c1) n1) :
    Calls Tryd.prog 3 #[.slice a0 n0 c0, .slice a1 n1 c1] w fun e w' => e = .returned (.bool true) ∧ Below w.heap.size w w' := by
  have m0 := h0.1
  have m1 := h1.1
  by_cases g0 : 1048576 < n0
  · have d0 : decide ((1048576 : Int) < (n0 : Int)) = true := by simp; omega
    go_enter Tryd.func3, Tryd.ntmps3
    go_wp2
    go_ret
    exact ⟨rfl, Below.refl _ _⟩
  have d0 : decide ((1048576 : Int) < (n0 : Int)) = false := by simp; omega
  by_cases g1 : 1048576 < n1
  · go_enter Tryd.func3, Tryd.ntmps3
    go_wp2
    go_ret
    exact ⟨rfl, Below.refl _ _⟩
  have d1 : decide ((1048576 : Int) < (n1 : Int)) = false := by simp; omega
  go_enter Tryd.func3, Tryd.ntmps3
  go_wp2_with fail
  refine (D4.num_any _ n0 _ h0).mono ?_
  rintro e w1 ⟨z, rfl, hz1, hz2, hb1⟩
  have z1 := hb1.size
  go_wp2_with fail
  refine (C1.put_impl z _ hz1 hz2).mono ?_
  rintro e w2 ⟨rfl, hb2⟩
  have z2 := hb2.size
  go_wp2_with fail
  refine (C1.put_spec z _ hz1 hz2).mono ?_
  rintro e w3 ⟨rfl, hb3⟩
  have z3 := hb3.size
  have hb : Below w.heap.size w w3 := (hb1.trans (hb2.mono z1)).trans (hb3.mono (by omega))
  clear hb1 hb2 hb3
  have hlen := Mb.leb_len 9 (Mb.foldU z)
  have hnb := CL.num_back z [120, 121] [122] hz1 hz2 (by simp [Mb.putNum]; omega)
  have hnc := CL.num_cut z hz1 hz2
  rw [show Mb.leb 9 (Mb.foldU z) = Mb.putNum z from rfl] at hlen
  have HNB : Hid (CK.tr ⟨([120, 121] ++ Mb.putNum z ++ [122]).toArray⟩ (([120, 121] : List UInt8).length : Nat) = (z, ([120, 121] : List UInt8).length + (Mb.putNum z).length, 0)) := hnb
  have HNC : Hid (CK.tr ⟨(Mb.putNum z).dropLast.toArray⟩ 0 = (0, 0, 4)) := hnc
  clear hnb hnc
  generalize Mb.putNum z = l at *
  have hl1 : ¬ (l.length : Int) < 1 := by omega
  have hl10 : ¬ (10 : Int) < (l.length : Int) := by omega
  have dl1 : decide ((l.length : Int) < 1) = false := by simp; omega
  have HV1 : Hid (CH.numOf ⟨([120, 121] ++ l ++ [122]).toArray⟩ 2 = CH.numOut z ((l.length : Int) + 2) 0) := by
    have := num_value _ _ _ _ _ HNB.out
    rw [show ((([120, 121] : List UInt8).length + l.length : Nat) : Int) = (l.length : Int) + 2 by simp; omega] at this
    exact this
  have HV2 : Hid (CH.numOf ⟨l.dropLast.toArray⟩ 0 = CH.numOut 0 0 4) := num_value _ _ _ _ _ HNC.out
  have hfn := field_num
  have hft := field_text
  clear HNB HNC
  go_wp2_with fail
  rw [mid_text]
  refine (CH.get_impl _ 2 _ (hL.below hb) (by rw [Mn.mk_size]; unfold maxLen; simp; omega) (by omega) (by omega)).mono ?_
  rintro e w4 ⟨rfl, hb4⟩
  rw [HV1.out]
  unfold CH.numOut
  have z4 := hb4.size
  have hb5 : Below w.heap.size w w4 := hb.trans (hb4.mono (by omega))
  clear hb4 hb HV1
  have hls : (1 : Int) ≤ (l.length : Int) := by omega
  go_wp2_with fail
  rw [cut_text]
  refine (CH.get_impl _ 0 _ ((hL.below hb5).alloc _) (by rw [Mn.mk_size]; unfold maxLen; simp; omega) (by omega) (by omega)).mono ?_
  rintro e w6 ⟨rfl, hb6⟩
  rw [HV2.out]
  unfold CH.numOut
  have z6 := hb6.size
  simp at z6
  have hb : Below w.heap.size w w6 := (hb5.alloc (by omega) _).trans (hb6.mono (by simp; omega))
  clear hb6 hb5 HV2
  go_wp2_with fail
  refine (D4.text_any _ n1 _ ((h1.below hb (Nat.le_refl _)).up hb.size)).mono ?_
  rintro e w7 ⟨u, rfl, hu, hb7⟩
  have z7 := hb7.size
  go_wp2_with fail
  refine (C3.put_impl u _ (by unfold maxLen; omega)).mono ?_
  rintro e w8 ⟨rfl, hb8⟩
  have z8 := hb8.size
  go_wp2_with fail
  refine (C3.put_spec u _ (by unfold maxLen; omega)).mono ?_
  rintro e w9 ⟨rfl, hb9⟩
  have z9 := hb9.size
  have hbn : Below w.heap.size w w9 := ((hb.trans (hb7.mono (by omega))).trans (hb8.mono (by omega))).trans (hb9.mono (by omega))
  clear hb7 hb8 hb9 hb
  by_cases hsz : 8000 < u.size
  · have hp : C3.putText u = [] := by simp [C3.putText, hsz]
    have HP : Hid (C3.putText u = []) := hp
    rw [HP.out]
    clear hp
    go_wp2_with fail
    refine (C3.put_spec u _ (by unfold maxLen; omega)).mono ?_
    rintro e w10 ⟨rfl, hb10⟩
    rw [HP.out]
    go_wp2
    go_ret
    exact ⟨rfl, hbn.trans (hb10.mono (by omega))⟩
  · have hpl := CL.put_list (u := u) (by omega)
    have hlp : (C3.putText u).length ≤ 8010 ∧ 1 ≤ (C3.putText u).length := by
      rw [hpl, List.length_append]
      have h1 := Mb.leb_len 9 (Mb.foldU u.size)
      have h2 : u.data.toList.length = u.size := rfl
      unfold Mb.putNum
      omega
    have HT1 : Hid ((C3.putText u).length + 1 ≤ 8000 → CK.textOf ⟨(120 :: C3.putText u).toArray⟩ 1 = CK.textOut u ((C3.putText u).length + 1) 0) := CL.text_back (by omega)
    have HT2 : Hid ((C3.putText u).length ≤ 8000 → CK.textOf ⟨(C3.putText u).dropLast.toArray⟩ 0 = CK.textOut ⟨#[]⟩ 0 4) := CL.text_cut (by omega)
    clear hpl
    generalize C3.putText u = p at *
    have hne : p.isEmpty = false := by
      cases p with
      | nil => simp at hlp
      | cons x r => rfl
    by_cases h8 : 8000 < p.length + 1
    · have h8i : (8000 : Int) < (p.length : Int) + 1 := by omega
      have d8 : decide ((8000 : Int) < (p.length : Int) + 1) = true := by simp; omega
      go_wp2
      go_ret
      exact ⟨rfl, hbn⟩
    · have d8 : decide ((8000 : Int) < (p.length : Int) + 1) = false := by simp; omega
      go_wp2_with fail
      rw [x_text]
      refine (CK.get_impl _ 1 _ (hL.below hbn) (by rw [Mn.mk_size]; unfold maxLen; simp; omega) (by omega) (by omega)).mono ?_
      rintro e w11 ⟨rfl, hb11⟩
      rw [HT1.out (by omega)]
      unfold CK.textOut
      have z11 := hb11.size
      have hbm : Below w.heap.size w w11 := hbn.trans (hb11.mono (by omega))
      clear hb11 hbn HT1
      have hps : (1 : Int) ≤ (p.length : Int) := by omega
      go_wp2_with fail
      rw [cut_text]
      refine (CK.get_impl _ 0 _ (hL.below hbm) (by rw [Mn.mk_size]; unfold maxLen; simp; omega) (by omega) (by omega)).mono ?_
      rintro e w12 ⟨rfl, hb12⟩
      rw [HT2.out (by omega)]
      unfold CK.textOut
      go_wp2
      go_ret
      exact ⟨rfl, hbm.trans (hb12.mono (by omega))⟩
end Go.Proofs.YtmfghkoimfckjaaDoor.YNums
