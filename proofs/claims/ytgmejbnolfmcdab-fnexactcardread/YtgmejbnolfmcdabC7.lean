/-
  What Unseal answers, in the specification and in the program.
-/
import Derived.Test.YtgmejbnolfmcdabC6
import Derived.Deep.RegionWith
import Derived.Deep.QuietTactic
import Derived.BigQuiet
import Derived.Lib.IndexBytes
namespace Go.Proofs.Ytgmejbnolfmcdab.C7
open Go.RowKit
open Go.Proofs.Ytgmejbnolfmcdab.C0

def body (s : ByteArray) : ByteArray := s.extract 0 (s.size - 4)
def out (t : ByteArray) (code : Int) : Value := .agg #[.string t, .int .i64 0, .int .i64 code]
/-- The last four bytes are those of the CRC of the others. -/
def okB (s : ByteArray) : Bool := C6.four (Mc.crcMore 0 (s.data.toList.take (s.size - 4))) == s.data.toList.drop (s.size - 4)
/-- What Unseal answers: the text, the place, the code. -/
def opened (s : ByteArray) : Value :=
  if 8000 < s.size then out ⟨#[]⟩ 2 else if s.size < 4 then out ⟨#[]⟩ 4 else if okB s = true then out (body s) 0 else out ⟨#[]⟩ 5
theorem okB_spec (s : ByteArray) : (C6.four (Mc.crcMore 0 (List.take (s.size - 4) s.data.toList)) == (s.extract (s.size - 4) s.size).toList) = okB s := by
  unfold okB
  rw [ByteArray.toList_eq, Lib.extract_to_end]

set_option maxRecDepth 100000 in
set_option maxHeartbeats 400000 in
theorem spec_any (s : ByteArray) (w : World) (hs : s.size ≤ maxLen) :
    Calls Try.prog 23 #[.string s] w fun e w' => e = .returned (opened s) ∧ Below w.heap.size w w' := by
  have hs' := hs
  unfold maxLen at hs
  by_cases h1 : 8000 < s.size
  · have HU : opened s = out ⟨#[]⟩ 2 := by simp [opened, h1]
    rw [HU]
    go_enter Try.func23, Try.ntmps23
    go_wp2
    exact bodyPost_ret (v := out ⟨#[]⟩ 2) (by simp [results, Try.results23, go_sem, out]) rfl ⟨rfl, (Below.refl _ _).alloc (Nat.le_refl _) _⟩
  by_cases h2 : s.size < 4
  · have HU : opened s = out ⟨#[]⟩ 4 := by simp [opened, h1, h2]
    rw [HU]
    go_enter Try.func23, Try.ntmps23
    go_wp2
    exact bodyPost_ret (v := out ⟨#[]⟩ 4) (by simp [results, Try.results23, go_sem, out]) rfl ⟨rfl, (Below.refl _ _).alloc (Nat.le_refl _) _⟩
  have HU : Hid (opened s = if okB s then out (body s) 0 else out ⟨#[]⟩ 5) := by simp [Hid, opened, h1, h2]
  have h4 : (4 : Int) ≤ (s.size : Int) := by omega
  have hwr : IntKind.i64.wrap ((s.size : Int) - 4) = (s.size : Int) - 4 := by rw [IntKind.wrap_i64]; omega
  have hsl : ∀ wx, (Instr.slice 9 (.string s) (some (.int .i64 ((s.size : Int) - 4))) none none).run Try.prog wx = .ok (.string (s.extract (s.size - 4) s.size)) wx := by
    intro wx
    rw [run_slice_string_from_if wx 9 s .i64 _ Try.underlying9, if_pos ⟨by omega, by omega⟩, show ((s.size : Int) - 4).toNat = s.size - 4 by omega]
  have hbs : (s.extract 0 (s.size - 4)).size ≤ 8000 := by simp; omega
  have hlt := Mc.crcMore_lt 0 (s.extract 0 (s.size - 4)).data.toList (by omega)
  go_enter Try.func23, Try.ntmps23
  go_wp2
  clear hs hs'
  go_region_with (first
    | (go_at_call 35; refine (C5.crc_spec 0 _ _ (by omega) hbs).mono ?_; rintro e w1 ⟨rfl, rfl⟩)
    | (go_at_call 34; refine (C6.four_spec _ _ ?_).mono ?_; exact Mc.crcMore_lt 0 _ (by omega); rintro e w1 ⟨rfl, hb1⟩))
  have hz : w.heap.size < w1.heap.size := by have := hb1.size; simp at this; omega
  obtain ⟨hc, hf⟩ := bcell hb1
  have hbel : Below w.heap.size w w1 := (((Below.refl _ _).alloc (Nat.le_refl _) _).drew).trans (hb1.mono (by simp))
  rw [okB_spec s]
  cases hok : okB s with
  | true =>
    have HU2 : Hid (opened s = out (s.extract 0 (s.size - 4)) 0) := by rw [hok] at HU; exact HU.out
    clear HU hok hb1
    go_wp2
    exact bodyPost_ret (v := out (s.extract 0 (s.size - 4)) 0) (by simp [results, Try.results23, go_sem, out, hc]) rfl ⟨by rw [HU2.out], ((hbel.setCell (by simp) _).setCell (by simp) _).setCell (by simp) _⟩
  | false =>
    have HU2 : Hid (opened s = out ⟨#[]⟩ 5) := by rw [hok] at HU; exact HU.out
    clear HU hok hb1
    go_wp2
    exact bodyPost_ret (v := out ⟨#[]⟩ 5) (by simp [results, Try.results23, go_sem, out, hc]) rfl ⟨by rw [HU2.out], ((hbel.setCell (by simp) _).setCell (by simp) _).setCell (by simp) _⟩

theorem body_data (s : ByteArray) : (s.extract 0 (s.size - 4)).data.toList = s.data.toList.take (s.size - 4) := by
  rw [Lib.extract_data]; simp
theorem okB_impl (s : ByteArray) (h4 : 4 ≤ s.size) (h8 : s.size ≤ 8000) : (C6.sealOf (s.extract 0 (s.size - 4)) == s.toList) = okB s := by
  have hz : (s.extract 0 (s.size - 4)).size = s.size - 4 := by simp
  rw [C6.seal_yes (by omega), body_data, ByteArray.toList_eq]
  unfold okB
  have e : s.data.toList = s.data.toList.take (s.size - 4) ++ s.data.toList.drop (s.size - 4) := (List.take_append_drop _ _).symm
  rw [Bool.eq_iff_iff, beq_iff_eq, beq_iff_eq]
  constructor
  · intro h
    conv at h => rhs; rw [e]
    exact List.append_cancel_left h
  · intro h
    rw [h, ← e]
theorem cat_one (b : ByteArray) : (⟨(C2.cat [b]).toArray⟩ : ByteArray) = b := by simp [C2.cat]

set_option maxRecDepth 100000 in
set_option maxHeartbeats 400000 in
theorem impl_any (s : ByteArray) (w : World) (hs : s.size ≤ maxLen) :
    Calls Try.prog 27 #[.string s] w fun e w' => e = .returned (opened s) ∧ Below w.heap.size w w' := by
  have hs' := hs
  unfold maxLen at hs
  by_cases h1 : 8000 < s.size
  · have HU : opened s = out ⟨#[]⟩ 2 := by simp [opened, h1]
    rw [HU]
    go_enter Try.func27, Try.ntmps27
    go_wp2
    exact bodyPost_ret (v := out ⟨#[]⟩ 2) (by simp [results, Try.results27, go_sem, out]) rfl ⟨rfl, (Below.refl _ _).alloc (Nat.le_refl _) _⟩
  by_cases h2 : s.size < 4
  · have HU : opened s = out ⟨#[]⟩ 4 := by simp [opened, h1, h2]
    rw [HU]
    go_enter Try.func27, Try.ntmps27
    go_wp2
    exact bodyPost_ret (v := out ⟨#[]⟩ 4) (by simp [results, Try.results27, go_sem, out]) rfl ⟨rfl, (Below.refl _ _).alloc (Nat.le_refl _) _⟩
  have HU : Hid (opened s = if okB s then out (body s) 0 else out ⟨#[]⟩ 5) := by simp [Hid, opened, h1, h2]
  have HK : Hid ((C6.sealOf (s.extract 0 (s.size - 4)) == s.toList) = okB s) := okB_impl s (by omega) (by omega)
  have hbs : (s.extract 0 (s.size - 4)).size ≤ maxLen := by unfold maxLen; simp; omega
  have hbs2 : (s.extract 0 (s.size - 4)).size ≤ 8000 := by simp; omega
  go_enter Try.func27, Try.ntmps27
  go_wp2_with fail
  refine (C6.seal_impl _ _ hbs).mono ?_
  rintro e w1 ⟨rfl, hb1⟩
  have hbo : Below (w.heap.size + 1) _ w1 := hb1.mono (by simp)
  obtain ⟨q0, q1, q2, qf, hz⟩ := kept3 hbo
  have hbel : Below w.heap.size w w1 := ((Below.refl _ _).alloc (Nat.le_refl _) _).trans (hb1.mono (by simp))
  cases hok : okB s with
  | true =>
    have HU2 : Hid (opened s = out (s.extract 0 (s.size - 4)) 0) := by rw [hok] at HU; exact HU.out
    have hk := HK.out
    rw [hok] at hk
    clear HU hok hb1 HK
    go_wp2_with fail
    refine (C2.joined_any w1.heap.size 0 1 1 [s.extract 0 (s.size - 4)] _ rfl (by simp) (by omega) ?_ ?_).mono ?_
    · show (s.extract 0 (s.size - 4)).size + 0 ≤ 1000000
      omega
    · intro j hj
      match j, hj with
      | 0, _ => go_simp
    rintro e w2 ⟨rfl, hb2⟩
    rw [cat_one]
    have hb3 : Below w.heap.size w w2 := (hbel.alloc (by omega) _).trans (hb2.mono (by simp; omega))
    obtain ⟨r0, r1, r2, rf, hz2⟩ := kept3 ((hbo.alloc (by omega) _).trans (hb2.mono (by simp; omega)))
    clear hb2 q0 q1 q2 qf hz hbo
    go_wp2
    exact bodyPost_ret (v := out (s.extract 0 (s.size - 4)) 0) (by simp [results, Try.results27, go_sem, out, r0, r1, r2]) rfl ⟨by rw [HU2.out], ((hb3.setCell (by simp) _).setCell (by simp) _).setCell (by simp) _⟩
  | false =>
    have HU2 : Hid (opened s = out ⟨#[]⟩ 5) := by rw [hok] at HU; exact HU.out
    have hk := HK.out
    rw [hok] at hk
    clear HU hok hb1 HK hbo
    go_wp2
    exact bodyPost_ret (v := out ⟨#[]⟩ 5) (by simp [results, Try.results27, go_sem, out, q0, q1, q2]) rfl ⟨by rw [HU2.out], ((hbel.setCell (by simp) _).setCell (by simp) _).setCell (by simp) _⟩
end Go.Proofs.Ytgmejbnolfmcdab.C7
