/-
  C7 C8: parts of the proof, one behind the other.
-/
import Derived.Test.YtfiabbfdnmldjaaGreatDoorPG
import Derived.Deep.RegionWith
import Derived.Deep.QuietTactic
import Derived.BigQuiet
import Derived.Lib.IndexBytes
import Derived.Test.YtfiabbfdnmldjaaGreatDoorPA
/-
  What Unseal answers, in the specification and in the program.
-/
namespace Go.Proofs.YtfiabbfdnmldjaaGreatDoor.C7
open Go.RowKit
open Go.Proofs.YtfiabbfdnmldjaaGreatDoor.C0

def body (s : ByteArray) : ByteArray := s.extract 0 (s.size - 4)
def out (t : ByteArray) (code : Int) : Value := .agg #[.string t, .int .i64 0, .int .i64 code]
/-- The last four bytes are those of the CRC of the others. -/
def okB (s : ByteArray) : Bool := C6.four (Mc.crcMore 0 (s.data.toList.take (s.size - 4))) == s.data.toList.drop (s.size - 4)
/-- What Unseal answers: the text, the place, the code. -/
def opened (s : ByteArray) : Value :=
  if 8000 < s.size then out ⟨#[]⟩ 2 else if s.size < 4 then out ⟨#[]⟩ 4 else if okB s = true then out (body s) 0 else out ⟨#[]⟩ 5
theorem okB_spec (s : ByteArray) : (C6.four (Mc.crcMore 0 (List.take (s.size - 4) s.data.toList)) == (s.extract (s.size - 4) s.size).toList) = okB s := by
  unfold okB
  rw [ByteArray.toList_eq, Lib.extract_to_end]

set_option maxRecDepth 100000 in
set_option maxHeartbeats 400000 in
theorem spec_any (s : ByteArray) (w : World) (hs : s.size ≤ maxLen) :
    Calls Tryz.prog 83 #[.string s] w fun e w' => e = .returned (opened s) ∧ Below w.heap.size w w' := by
  have hs' := hs
  unfold maxLen at hs
  by_cases h1 : 8000 < s.size
  · have HU : opened s = out ⟨#[]⟩ 2 := by simp [opened, h1]
    rw [HU]
    go_enter Tryz.func83, Tryz.ntmps83
    go_wp2
    exact bodyPost_ret (v := out ⟨#[]⟩ 2) (by simp [results, Tryz.results83, go_sem, out]) rfl ⟨rfl, (Below.refl _ _).alloc (Nat.le_refl _) _⟩
  by_cases h2 : s.size < 4
  · have HU : opened s = out ⟨#[]⟩ 4 := by simp [opened, h1, h2]
    rw [HU]
    go_enter Tryz.func83, Tryz.ntmps83
    go_wp2
    exact bodyPost_ret (v := out ⟨#[]⟩ 4) (by simp [results, Tryz.results83, go_sem, out]) rfl ⟨rfl, (Below.refl _ _).alloc (Nat.le_refl _) _⟩
  have HU : Hid (opened s = if okB s then out (body s) 0 else out ⟨#[]⟩ 5) := by simp [Hid, opened, h1, h2]
  have h4 : (4 : Int) ≤ (s.size : Int) := by omega
  have hwr : IntKind.i64.wrap ((s.size : Int) - 4) = (s.size : Int) - 4 := by rw [IntKind.wrap_i64]; omega
  have hsl : ∀ wx, (Instr.slice 9 (.string s) (some (.int .i64 ((s.size : Int) - 4))) none none).run Tryz.prog wx = .ok (.string (s.extract (s.size - 4) s.size)) wx := by
    intro wx
    rw [run_slice_string_from_if wx 9 s .i64 _ Tryz.underlying9, if_pos ⟨by omega, by omega⟩, show ((s.size : Int) - 4).toNat = s.size - 4 by omega]
  have hbs : (s.extract 0 (s.size - 4)).size ≤ 8000 := by simp; omega
  have hlt := Mc.crcMore_lt 0 (s.extract 0 (s.size - 4)).data.toList (by omega)
  go_enter Tryz.func83, Tryz.ntmps83
  go_wp2
  clear hs hs'
  go_region_with (first
    | (go_at_call 108; refine (C5.crc_spec 0 _ _ (by omega) hbs).mono ?_; rintro e w1 ⟨rfl, rfl⟩)
    | (go_at_call 107; refine (C6.four_spec _ _ ?_).mono ?_; exact Mc.crcMore_lt 0 _ (by omega); rintro e w1 ⟨rfl, hb1⟩))
  have hz : w.heap.size < w1.heap.size := by have := hb1.size; simp at this; omega
  obtain ⟨hc, hf⟩ := bcell hb1
  have hbel : Below w.heap.size w w1 := (((Below.refl _ _).alloc (Nat.le_refl _) _).drew).trans (hb1.mono (by simp))
  rw [okB_spec s]
  cases hok : okB s with
  | true =>
    have HU2 : Hid (opened s = out (s.extract 0 (s.size - 4)) 0) := by rw [hok] at HU; exact HU.out
    clear HU hok hb1
    go_wp2
    exact bodyPost_ret (v := out (s.extract 0 (s.size - 4)) 0) (by simp [results, Tryz.results83, go_sem, out, hc]) rfl ⟨by rw [HU2.out], ((hbel.setCell (by simp) _).setCell (by simp) _).setCell (by simp) _⟩
  | false =>
    have HU2 : Hid (opened s = out ⟨#[]⟩ 5) := by rw [hok] at HU; exact HU.out
    clear HU hok hb1
    go_wp2
    exact bodyPost_ret (v := out ⟨#[]⟩ 5) (by simp [results, Tryz.results83, go_sem, out, hc]) rfl ⟨by rw [HU2.out], ((hbel.setCell (by simp) _).setCell (by simp) _).setCell (by simp) _⟩

theorem body_data (s : ByteArray) : (s.extract 0 (s.size - 4)).data.toList = s.data.toList.take (s.size - 4) := by
  rw [Lib.extract_data]; simp
theorem okB_impl (s : ByteArray) (h4 : 4 ≤ s.size) (h8 : s.size ≤ 8000) : (C6.sealOf (s.extract 0 (s.size - 4)) == s.toList) = okB s := by
  have hz : (s.extract 0 (s.size - 4)).size = s.size - 4 := by simp
  rw [C6.seal_yes (by omega), body_data, ByteArray.toList_eq]
  unfold okB
  have e : s.data.toList = s.data.toList.take (s.size - 4) ++ s.data.toList.drop (s.size - 4) := (List.take_append_drop _ _).symm
  rw [Bool.eq_iff_iff, beq_iff_eq, beq_iff_eq]
  constructor
  · intro h
    conv at h => rhs; rw [e]
    exact List.append_cancel_left h
  · intro h
    rw [h, ← e]
theorem cat_one (b : ByteArray) : (⟨(C2.cat [b]).toArray⟩ : ByteArray) = b := by simp [C2.cat]

set_option maxRecDepth 100000 in
set_option maxHeartbeats 400000 in
theorem impl_any (s : ByteArray) (w : World) (hs : s.size ≤ maxLen) :
    Calls Tryz.prog 69 #[.string s] w fun e w' => e = .returned (opened s) ∧ Below w.heap.size w w' := by
  have hs' := hs
  unfold maxLen at hs
  by_cases h1 : 8000 < s.size
  · have HU : opened s = out ⟨#[]⟩ 2 := by simp [opened, h1]
    rw [HU]
    go_enter Tryz.func69, Tryz.ntmps69
    go_wp2
    exact bodyPost_ret (v := out ⟨#[]⟩ 2) (by simp [results, Tryz.results69, go_sem, out]) rfl ⟨rfl, (Below.refl _ _).alloc (Nat.le_refl _) _⟩
  by_cases h2 : s.size < 4
  · have HU : opened s = out ⟨#[]⟩ 4 := by simp [opened, h1, h2]
    rw [HU]
    go_enter Tryz.func69, Tryz.ntmps69
    go_wp2
    exact bodyPost_ret (v := out ⟨#[]⟩ 4) (by simp [results, Tryz.results69, go_sem, out]) rfl ⟨rfl, (Below.refl _ _).alloc (Nat.le_refl _) _⟩
  have HU : Hid (opened s = if okB s then out (body s) 0 else out ⟨#[]⟩ 5) := by simp [Hid, opened, h1, h2]
  have HK : Hid ((C6.sealOf (s.extract 0 (s.size - 4)) == s.toList) = okB s) := okB_impl s (by omega) (by omega)
  have hbs : (s.extract 0 (s.size - 4)).size ≤ maxLen := by unfold maxLen; simp; omega
  have hbs2 : (s.extract 0 (s.size - 4)).size ≤ 8000 := by simp; omega
  go_enter Tryz.func69, Tryz.ntmps69
  go_wp2_with fail
  refine (C6.seal_impl _ _ hbs).mono ?_
  rintro e w1 ⟨rfl, hb1⟩
  have hbo : Below (w.heap.size + 1) _ w1 := hb1.mono (by simp)
  obtain ⟨q0, q1, q2, qf, hz⟩ := kept3 hbo
  have hbel : Below w.heap.size w w1 := ((Below.refl _ _).alloc (Nat.le_refl _) _).trans (hb1.mono (by simp))
  cases hok : okB s with
  | true =>
    have HU2 : Hid (opened s = out (s.extract 0 (s.size - 4)) 0) := by rw [hok] at HU; exact HU.out
    have hk := HK.out
    rw [hok] at hk
    clear HU hok hb1 HK
    go_wp2_with fail
    refine (C2.joined_any w1.heap.size 0 1 1 [s.extract 0 (s.size - 4)] _ rfl (by simp) (by omega) ?_ ?_).mono ?_
    · show (s.extract 0 (s.size - 4)).size + 0 ≤ 1000000
      omega
    · intro j hj
      match j, hj with
      | 0, _ => go_simp
    rintro e w2 ⟨rfl, hb2⟩
    rw [cat_one]
    have hb3 : Below w.heap.size w w2 := (hbel.alloc (by omega) _).trans (hb2.mono (by simp; omega))
    obtain ⟨r0, r1, r2, rf, hz2⟩ := kept3 ((hbo.alloc (by omega) _).trans (hb2.mono (by simp; omega)))
    clear hb2 q0 q1 q2 qf hz hbo
    go_wp2
    exact bodyPost_ret (v := out (s.extract 0 (s.size - 4)) 0) (by simp [results, Tryz.results69, go_sem, out, r0, r1, r2]) rfl ⟨by rw [HU2.out], ((hb3.setCell (by simp) _).setCell (by simp) _).setCell (by simp) _⟩
  | false =>
    have HU2 : Hid (opened s = out ⟨#[]⟩ 5) := by rw [hok] at HU; exact HU.out
    have hk := HK.out
    rw [hok] at hk
    clear HU hok hb1 HK hbo
    go_wp2
    exact bodyPost_ret (v := out ⟨#[]⟩ 5) (by simp [results, Tryz.results69, go_sem, out, q0, q1, q2]) rfl ⟨by rw [HU2.out], ((hbel.setCell (by simp) _).setCell (by simp) _).setCell (by simp) _⟩
end Go.Proofs.YtfiabbfdnmldjaaGreatDoor.C7

/-
  A sealed text is opened again; with one byte turned it is refused.
-/
namespace Go.Proofs.YtfiabbfdnmldjaaGreatDoor.C8
open Go.RowKit
open Go.Proofs.YtfiabbfdnmldjaaGreatDoor.C7

theorem mk_size (l : List UInt8) : (⟨l.toArray⟩ : ByteArray).size = l.length := by simp [ByteArray.size]
theorem four_len (n : Nat) : (C6.four n).length = 4 := rfl
theorem four_inj {a b : Nat} (ha : a < 4294967296) (hb : b < 4294967296) (h : C6.four a = C6.four b) : a = b := by
  simp only [C6.four, List.cons.injEq, and_true] at h
  obtain ⟨h0, h1, h2, h3⟩ := h
  have e : ∀ x y : Nat, UInt8.ofNat x = UInt8.ofNat y → x % 256 = y % 256 := by
    intro x y hxy
    have := congrArg UInt8.toNat hxy
    simpa [UInt8.toNat_ofNat'] using this
  have := e _ _ h0
  have := e _ _ h1
  have := e _ _ h2
  have := e _ _ h3
  omega
theorem seal_list {t : ByteArray} (h : t.size ≤ 7996) : C6.sealOf t = t.data.toList ++ C6.four (Mc.crcMore 0 t.data.toList) := C6.seal_yes (by omega)
theorem seal_len {t : ByteArray} (h : t.size ≤ 7996) : (C6.sealOf t).length = t.size + 4 := by
  rw [seal_list h, List.length_append, four_len]; rfl
theorem data_len (t : ByteArray) : t.data.toList.length = t.size := rfl

theorem opened_seal {t : ByteArray} (h : t.size ≤ 7996) : opened ⟨(C6.sealOf t).toArray⟩ = out t 0 := by
  have hs : (⟨(C6.sealOf t).toArray⟩ : ByteArray).size = t.size + 4 := by rw [mk_size, seal_len h]
  unfold opened
  rw [if_neg (by omega), if_neg (by omega)]
  have hk : okB ⟨(C6.sealOf t).toArray⟩ = true := by
    unfold okB
    rw [hs, Nat.add_sub_cancel]
    simp only [seal_list h]
    rw [List.take_left' (data_len t), List.drop_left' (data_len t)]
    exact beq_self_eq_true _
  rw [if_pos hk]
  unfold body
  rw [hs, Nat.add_sub_cancel]
  congr 1
  apply ByteArray.ext
  apply Array.ext'
  rw [Lib.extract_data]
  simp only [seal_list h, List.drop_zero, Nat.sub_zero]
  exact List.take_left' (data_len t)

theorem opened_turned {t : ByteArray} (h : t.size ≤ 7996) (i : Nat) (hi : i < (C6.sealOf t).length) (c : UInt8) (hc : c ≠ (C6.sealOf t)[i]) :
    opened ⟨((C6.sealOf t).set i c).toArray⟩ = out ⟨#[]⟩ 5 := by
  have hl := seal_len h
  have hs : (⟨((C6.sealOf t).set i c).toArray⟩ : ByteArray).size = t.size + 4 := by rw [mk_size, List.length_set, hl]
  unfold opened
  rw [if_neg (by omega), if_neg (by omega)]
  have hk : okB ⟨((C6.sealOf t).set i c).toArray⟩ = false := by
    unfold okB
    rw [hs, Nat.add_sub_cancel, List.toList_toArray, beq_eq_false_iff_ne]
    have e := seal_list h
    intro heq
    by_cases hit : i < t.size
    · have hd : ((C6.sealOf t).set i c).drop t.size = C6.four (Mc.crcMore 0 t.data.toList) := by
        rw [List.drop_set_of_lt hit, e, List.drop_left' (data_len t)]
      have ht : ((C6.sealOf t).set i c).take t.size = t.data.toList.set i c := by
        rw [e, List.set_append_left _ _ hit, List.take_left' (by rw [List.length_set]; rfl)]
      rw [hd, ht] at heq
      have hlt : ∀ l : List UInt8, Mc.crcMore 0 l < 4294967296 := fun l => Mc.crcMore_lt 0 l (by omega)
      refine Mc.crcMore_set t.data.toList i c hit ?_ (four_inj (hlt _) (hlt _) heq)
      have : (C6.sealOf t)[i] = t.data.toList[i] := by simp only [e]; exact List.getElem_append_left hit
      rw [← this]; exact hc
    · have ht : ((C6.sealOf t).set i c).take t.size = t.data.toList := by
        rw [List.take_set_of_le (by omega), e, List.take_left' (data_len t)]
      have hd : ((C6.sealOf t).set i c).drop t.size = (C6.four (Mc.crcMore 0 t.data.toList)).set (i - t.size) c := by
        rw [e, List.set_append_right _ _ (by rw [data_len]; omega), List.drop_left' (data_len t), data_len]
      rw [hd, ht] at heq
      have hj : i - t.size < (C6.four (Mc.crcMore 0 t.data.toList)).length := by rw [four_len]; omega
      have h1 : (C6.four (Mc.crcMore 0 t.data.toList))[i - t.size] = c := by
        have := congrArg (fun l => l[i - t.size]?) heq
        simp only [List.getElem?_set_self hj, List.getElem?_eq_getElem hj] at this
        exact Option.some.inj this
      apply hc
      rw [← h1]
      simp only [e]
      rw [List.getElem_append_right (by rw [data_len]; omega)]
      rfl
  rw [hk]; rfl
end Go.Proofs.YtfiabbfdnmldjaaGreatDoor.C8
