/-
  A sealed text is opened again; with one byte turned it is refused.
-/
import Derived.Test.YtmfghkoimfckjaaC7
import Derived.Test.YtmfghkoimfckjaaM4
namespace Go.Proofs.Ytmfghkoimfckjaa.C8
open Go.RowKit
open Go.Proofs.Ytmfghkoimfckjaa.C7

theorem mk_size (l : List UInt8) : (⟨l.toArray⟩ : ByteArray).size = l.length := by simp [ByteArray.size]
theorem four_len (n : Nat) : (C6.four n).length = 4 := rfl
theorem four_inj {a b : Nat} (ha : a < 4294967296) (hb : b < 4294967296) (h : C6.four a = C6.four b) : a = b := by
  simp only [C6.four, List.cons.injEq, and_true] at h
  obtain ⟨h0, h1, h2, h3⟩ := h
  have e : ∀ x y : Nat, UInt8.ofNat x = UInt8.ofNat y → x % 256 = y % 256 := by
    intro x y hxy
    have := congrArg UInt8.toNat hxy
    simpa [UInt8.toNat_ofNat'] using this
  have := e _ _ h0
  have := e _ _ h1
  have := e _ _ h2
  have := e _ _ h3
  omega
theorem seal_list {t : ByteArray} (h : t.size ≤ 7996) : C6.sealOf t = t.data.toList ++ C6.four (Mc.crcMore 0 t.data.toList) := C6.seal_yes (by omega)
theorem seal_len {t : ByteArray} (h : t.size ≤ 7996) : (C6.sealOf t).length = t.size + 4 := by
  rw [seal_list h, List.length_append, four_len]; rfl
theorem data_len (t : ByteArray) : t.data.toList.length = t.size := rfl

theorem opened_seal {t : ByteArray} (h : t.size ≤ 7996) : opened ⟨(C6.sealOf t).toArray⟩ = out t 0 := by
  have hs : (⟨(C6.sealOf t).toArray⟩ : ByteArray).size = t.size + 4 := by rw [mk_size, seal_len h]
  unfold opened
  rw [if_neg (by omega), if_neg (by omega)]
  have hk : okB ⟨(C6.sealOf t).toArray⟩ = true := by
    unfold okB
    rw [hs, Nat.add_sub_cancel]
    simp only [seal_list h]
    rw [List.take_left' (data_len t), List.drop_left' (data_len t)]
    exact beq_self_eq_true _
  rw [if_pos hk]
  unfold body
  rw [hs, Nat.add_sub_cancel]
  congr 1
  apply ByteArray.ext
  apply Array.ext'
  rw [Lib.extract_data]
  simp only [seal_list h, List.drop_zero, Nat.sub_zero]
  exact List.take_left' (data_len t)

theorem opened_turned {t : ByteArray} (h : t.size ≤ 7996) (i : Nat) (hi : i < (C6.sealOf t).length) (c : UInt8) (hc : c ≠ (C6.sealOf t)[i]) :
    opened ⟨((C6.sealOf t).set i c).toArray⟩ = out ⟨#[]⟩ 5 := by
  have hl := seal_len h
  have hs : (⟨((C6.sealOf t).set i c).toArray⟩ : ByteArray).size = t.size + 4 := by rw [mk_size, List.length_set, hl]
  unfold opened
  rw [if_neg (by omega), if_neg (by omega)]
  have hk : okB ⟨((C6.sealOf t).set i c).toArray⟩ = false := by
    unfold okB
    rw [hs, Nat.add_sub_cancel, List.toList_toArray, beq_eq_false_iff_ne]
    have e := seal_list h
    intro heq
    by_cases hit : i < t.size
    · have hd : ((C6.sealOf t).set i c).drop t.size = C6.four (Mc.crcMore 0 t.data.toList) := by
        rw [List.drop_set_of_lt hit, e, List.drop_left' (data_len t)]
      have ht : ((C6.sealOf t).set i c).take t.size = t.data.toList.set i c := by
        rw [e, List.set_append_left _ _ hit, List.take_left' (by rw [List.length_set]; rfl)]
      rw [hd, ht] at heq
      have hlt : ∀ l : List UInt8, Mc.crcMore 0 l < 4294967296 := fun l => Mc.crcMore_lt 0 l (by omega)
      refine Mc.crcMore_set t.data.toList i c hit ?_ (four_inj (hlt _) (hlt _) heq)
      have : (C6.sealOf t)[i] = t.data.toList[i] := by simp only [e]; exact List.getElem_append_left hit
      rw [← this]; exact hc
    · have ht : ((C6.sealOf t).set i c).take t.size = t.data.toList := by
        rw [List.take_set_of_le (by omega), e, List.take_left' (data_len t)]
      have hd : ((C6.sealOf t).set i c).drop t.size = (C6.four (Mc.crcMore 0 t.data.toList)).set (i - t.size) c := by
        rw [e, List.set_append_right _ _ (by rw [data_len]; omega), List.drop_left' (data_len t), data_len]
      rw [hd, ht] at heq
      have hj : i - t.size < (C6.four (Mc.crcMore 0 t.data.toList)).length := by rw [four_len]; omega
      have h1 : (C6.four (Mc.crcMore 0 t.data.toList))[i - t.size] = c := by
        have := congrArg (fun l => l[i - t.size]?) heq
        simp only [List.getElem?_set_self hj, List.getElem?_eq_getElem hj] at this
        exact Option.some.inj this
      apply hc
      rw [← h1]
      simp only [e]
      rw [List.getElem_append_right (by rw [data_len]; omega)]
      rfl
  rw [hk]; rfl
end Go.Proofs.Ytmfghkoimfckjaa.C8
