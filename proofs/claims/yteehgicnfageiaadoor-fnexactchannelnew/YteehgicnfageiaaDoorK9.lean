/-
  A key filled up to a block, each byte put together with a mask: the program's, the specification's, the law's.
-/
import Derived.Test.YteehgicnfageiaaDoorK3
namespace Go.Proofs.YteehgicnfageiaaDoor.K9
open Go.RowKit
open Go.Proofs.YteehgicnfageiaaDoor.C0
open Go.Proofs.YteehgicnfageiaaDoor.K3 (byt bytesOf)
open Go.Lib (run_copy_row_string)

/-- What holds at the head of a round: the first k bytes are put together with the mask. -/
def Rel (l : List UInt8) (m : UInt8) (w0 : World) (i : Value) (w : World) : Prop :=
  ∃ (k : Nat) (f : Nat → Value), k ≤ 64 ∧ i = .int .i64 k ∧ w.rowIs w0.heap.size 5 64 f ∧ (∀ j, j < k → f j = byt (Ms.byteAt l j ^^^ m.toNat)) ∧ (∀ j, k ≤ j → j < 64 → f j = byt (Ms.byteAt l j)) ∧ Below w0.heap.size w0 w
theorem Rel.step {l : List UInt8} {m : UInt8} {w0 w : World} {k : Nat} {f : Nat → Value} (hk : k < 64) (hrow : w.rowIs w0.heap.size 5 64 f) (hlo : ∀ j, j < k → f j = byt (Ms.byteAt l j ^^^ m.toNat)) (hhi : ∀ j, k ≤ j → j < 64 → f j = byt (Ms.byteAt l j)) (hbel : Below w0.heap.size w0 w) :
    Rel l m w0 (.int .i64 ((k + 1 : Nat) : Int)) (w.setCell ⟨w0.heap.size, k, none⟩ (byt (Ms.byteAt l k ^^^ m.toNat))) := by
  refine ⟨k + 1, _, hk, rfl, hrow.set _ _, fun j hj => ?_, fun j h1 h2 => ?_, hbel.setCell (Nat.le_refl _) _⟩
  · show (if j = k then _ else f j) = _
    by_cases h : j = k
    · rw [if_pos h, h]
    · rw [if_neg h]; exact hlo j (by omega)
  · show (if j = k then _ else f j) = _
    rw [if_neg (by omega)]; exact hhi j (by omega) h2
theorem mask_at (l : List UInt8) (m : UInt8) (hl : l.length ≤ 64) (j : Nat) (hj : j < (Ms.mask l m).length) : (Ms.mask l m)[j].toNat = Ms.byteAt l j ^^^ m.toNat := by
  have h64 := Ms.mask_length l m hl
  have hf : j < (Ms.full l).length := by rw [Ms.full_length l hl]; omega
  have e : (Ms.mask l m)[j] = (Ms.full l)[j] ^^^ m := by simp [Ms.mask]
  rw [e, UInt8.toNat_xor]
  congr 1
  rw [← Ms.byteAt_eq (Ms.full l) j hf]
  unfold Ms.full
  rcases Nat.lt_or_ge j l.length with h | h
  · rw [Ms.byteAt_left _ _ _ h]
  · obtain ⟨q, rfl⟩ : ∃ q, j = l.length + q := ⟨j - l.length, by omega⟩
    rw [Ms.byteAt_right, Ms.byteAt_zeros]
    unfold Ms.byteAt
    rw [List.getD_eq_getElem?_getD, List.getElem?_eq_none (by omega)]; rfl
theorem conv_mask {l : List UInt8} {m : UInt8} {w : World} {g : Nat} {f : Nat → Value} (hl : l.length ≤ 64) (hrow : w.rowIs g 5 64 f) (hlo : ∀ j, j < 64 → f j = byt (Ms.byteAt l j ^^^ m.toNat)) :
    (convert 22 9 (.slice (some ⟨g, 0, none⟩) 64 64)).run Tryd.prog w = .ok (.string ⟨(Ms.mask l m).toArray⟩) w := by
  have h64 := Ms.mask_length l m hl
  have := run_convert_bytes_back (P := Tryd.prog) w 22 9 5 ⟨g, 0, none⟩ 64 (Ms.mask l m) Tryd.underlying22 Tryd.underlying5 Tryd.underlying9 (fun j hj => by
    have ha : (⟨g, 0, none⟩ : Addr).add j = ⟨g, j, none⟩ := by unfold Addr.add; split <;> simp_all
    rw [ha, hrow.cell (by omega), hlo j (by omega), mask_at l m hl j hj])
  rw [h64] at this
  exact this

set_option maxRecDepth 100000 in
set_option maxHeartbeats 800000 in
theorem mask_impl (s : ByteArray) (m : UInt8) (w : World) (hs : s.size ≤ 64) :
    Calls Tryd.prog 95 #[.string s, .int .u8 (m.toNat : Int)] w fun e w' => e = .returned (.string ⟨(Ms.mask (bytesOf s) m).toArray⟩) ∧ Below w.heap.size w w' := by
  have hmk0 := run_make_row' (P := Tryd.prog) 22 5 (.int .u8 0) 1 Tryd.underlying22 info_u8 rfl .i64 .i64 64 (by omega) (by omega)
  have hmk : ∀ w, (Instr.makeSlice 22 (.int .i64 64) (.int .i64 64)).run Tryd.prog w = .ok (.slice (some ⟨w.heap.size, 0, none⟩) 64 64) (w.alloc (.cells (madeCells #[Value.int .u8 0] 64) 5)) := hmk0
  clear hmk0
  have hu8 : (Tryd.prog.info? 5).map (·.size) = some 1 := by kernel_rfl
  have hcp := run_copy_row_string (P := Tryd.prog) (w.alloc (.cells (madeCells #[Value.int .u8 0] 64) 5)) 22 9 3 5 w.heap.size 0 64 64 s (madeCells #[Value.int .u8 0] 64) 5 Tryd.underlying22 hu8 (Go.Deep.blk_alloc_new _ _) (by omega) (by rw [size_madeCells]; omega)
  have hrow := K3.made_row w 64 5 s (by omega)
  obtain ⟨W, hW⟩ : ∃ x, (w.alloc (.cells (madeCells #[Value.int .u8 0] 64) 5)).setRow w.heap.size ((madeCells #[Value.int .u8 0] 64).toList.take 0 ++ Lib.byteCells s.data.toList ++ (madeCells #[Value.int .u8 0] 64).toList.drop (0 + s.size)).toArray = x := ⟨_, rfl⟩
  rw [hW] at hcp hrow
  have hbel : Below w.heap.size w W := by rw [← hW]; exact below_setRow ((Below.refl _ _).alloc (Nat.le_refl _) _) (Nat.le_refl _) _
  have HQ : Hid (Rel (bytesOf s) m w (.int .i64 0) W) := ⟨0, _, by omega, rfl, hrow, fun j hj => by omega, fun _ _ _ => rfl, hbel⟩
  have hl : Hid ((bytesOf s).length ≤ 64) := by unfold Hid; simpa using hs
  clear hrow hbel hW
  have hm := m.toNat_lt
  go_enter Tryd.func95, Tryd.ntmps95
  go_wp2_with fail
  clear hcp hmk
  go_loopw [13] (fun i wr => Rel (bytesOf s) m w i wr) (fun i _ => 64 - (intOf i).toNat)
  case atStart => exact HQ.out
  case round =>
    clear HQ
    obtain ⟨k, f, hk, rfl, hrow, hlo, hhi, hbel⟩ := hrel
    by_cases hlt : k < 64
    · have hcell : wr.cell? ⟨w.heap.size, k, none⟩ = some (byt (Ms.byteAt (bytesOf s) k)) := by rw [← hhi k (Nat.le_refl _) hlt]; exact hrow.cell hlt
      have hfr := hrow.frozen k
      have hx := u8_xor_nat (Ms.byteAt (bytesOf s) k) m.toNat (Ms.byteAt_lt _ _) hm
      have HN : Hid (Rel (bytesOf s) m w (.int .i64 ((k + 1 : Nat) : Int)) (wr.setCell ⟨w.heap.size, k, none⟩ (byt (Ms.byteAt (bytesOf s) k ^^^ m.toNat)))) := Rel.step hlt hrow hlo hhi hbel
      generalize Ms.byteAt (bytesOf s) k = x at *
      generalize x ^^^ m.toNat = y at *
      clear hrow hlo hhi hbel
      go_wp2
      go_roundw
      case rel => exact HN.out
      case measure => simp [intOf]; omega
    · obtain rfl : k = 64 := by omega
      have hconv := conv_mask hl.out hrow hlo
      have HB : Hid (Below w.heap.size w wr) := hbel
      clear hrow hlo hhi hbel
      go_wp2
      go_ret
      exact ⟨rfl, HB.out⟩

set_option maxRecDepth 100000 in
set_option maxHeartbeats 800000 in
theorem mask_spec (s : ByteArray) (m : UInt8) (w : World) (hs : s.size ≤ 64) :
    Calls Tryd.prog 100 #[.string s, .int .u8 (m.toNat : Int)] w fun e w' => e = .returned (.string ⟨(Ms.mask (bytesOf s) m).toArray⟩) ∧ Below w.heap.size w w' := by
  have hmk0 := run_make_row' (P := Tryd.prog) 22 5 (.int .u8 0) 1 Tryd.underlying22 info_u8 rfl .i64 .i64 64 (by omega) (by omega)
  have hmk : ∀ w, (Instr.makeSlice 22 (.int .i64 64) (.int .i64 64)).run Tryd.prog w = .ok (.slice (some ⟨w.heap.size, 0, none⟩) 64 64) (w.alloc (.cells (madeCells #[Value.int .u8 0] 64) 5)) := hmk0
  clear hmk0
  have hu8 : (Tryd.prog.info? 5).map (·.size) = some 1 := by kernel_rfl
  have hcp := run_copy_row_string (P := Tryd.prog) (w.alloc (.cells (madeCells #[Value.int .u8 0] 64) 5)) 22 9 3 5 w.heap.size 0 64 64 s (madeCells #[Value.int .u8 0] 64) 5 Tryd.underlying22 hu8 (Go.Deep.blk_alloc_new _ _) (by omega) (by rw [size_madeCells]; omega)
  have hrow := K3.made_row w 64 5 s (by omega)
  obtain ⟨W, hW⟩ : ∃ x, (w.alloc (.cells (madeCells #[Value.int .u8 0] 64) 5)).setRow w.heap.size ((madeCells #[Value.int .u8 0] 64).toList.take 0 ++ Lib.byteCells s.data.toList ++ (madeCells #[Value.int .u8 0] 64).toList.drop (0 + s.size)).toArray = x := ⟨_, rfl⟩
  rw [hW] at hcp hrow
  have hbel : Below w.heap.size w W := by rw [← hW]; exact below_setRow ((Below.refl _ _).alloc (Nat.le_refl _) _) (Nat.le_refl _) _
  have HQ : Hid (Rel (bytesOf s) m w (.int .i64 0) W) := ⟨0, _, by omega, rfl, hrow, fun j hj => by omega, fun _ _ _ => rfl, hbel⟩
  have hl : Hid ((bytesOf s).length ≤ 64) := by unfold Hid; simpa using hs
  clear hrow hbel hW
  have hm := m.toNat_lt
  go_enter Tryd.func100, Tryd.ntmps100
  go_wp2_with fail
  clear hcp hmk
  go_loopw [6] (fun i wr => Rel (bytesOf s) m w i wr) (fun i _ => 64 - (intOf i).toNat)
  case atStart => exact HQ.out
  case round =>
    clear HQ
    obtain ⟨k, f, hk, rfl, hrow, hlo, hhi, hbel⟩ := hrel
    by_cases hlt : k < 64
    · have hcell : wr.cell? ⟨w.heap.size, k, none⟩ = some (byt (Ms.byteAt (bytesOf s) k)) := by rw [← hhi k (Nat.le_refl _) hlt]; exact hrow.cell hlt
      have hfr := hrow.frozen k
      have hx := u8_xor_nat (Ms.byteAt (bytesOf s) k) m.toNat (Ms.byteAt_lt _ _) hm
      have HN : Hid (Rel (bytesOf s) m w (.int .i64 ((k + 1 : Nat) : Int)) (wr.setCell ⟨w.heap.size, k, none⟩ (byt (Ms.byteAt (bytesOf s) k ^^^ m.toNat)))) := Rel.step hlt hrow hlo hhi hbel
      generalize Ms.byteAt (bytesOf s) k = x at *
      generalize x ^^^ m.toNat = y at *
      clear hrow hlo hhi hbel
      go_wp2
      go_roundw
      case rel => exact HN.out
      case measure => simp [intOf]; omega
    · obtain rfl : k = 64 := by omega
      have hconv := conv_mask hl.out hrow hlo
      have HB : Hid (Below w.heap.size w wr) := hbel
      clear hrow hlo hhi hbel
      go_wp2
      go_ret
      exact ⟨rfl, HB.out⟩

end Go.Proofs.YteehgicnfageiaaDoor.K9
