/-
  The text filled up to whole blocks, as the program lays it.
-/
import Derived.Test.YtkpjdmmgdmbmnabDoorC9
import Derived.Test.YtkpjdmmgdmbmnabDoorQA
import Derived.Lib.BufferWrite
namespace Go.Proofs.YtkpjdmmgdmbmnabDoor.K3
open Go.RowKit
open Go.Proofs.YtkpjdmmgdmbmnabDoor.C0
open Go.Lib (run_copy_row_string)

abbrev byt (n : Nat) : Value := .int .u8 (n : Int)
abbrev bytesOf (s : ByteArray) : List UInt8 := s.data.toList
/-- What holds at the head of a round that lays a byte of the length. -/
def Rel (l : List UInt8) (w0 : World) (n : Nat) (x i : Value) (w : World) : Prop :=
  ∃ (k : Nat) (f : Nat → Value), k ≤ 8 ∧ i = .int .i64 k ∧ x = .int .u64 ((8 * l.length / 256 ^ k : Nat) : Int) ∧ w.rowIs w0.heap.size 5 n f ∧ (∀ j, j < n - 8 → f j = byt (Ms.byteAt (Ms.pad l) j)) ∧ (∀ j, n - k ≤ j → j < n → f j = byt (Ms.byteAt (Ms.pad l) j)) ∧ Below w0.heap.size w0 w

theorem made_row (w : World) (n : Nat) (t : TypeId) (s : ByteArray) (hs : s.size ≤ n) :
    ((w.alloc (.cells (madeCells #[Value.int .u8 0] n) t)).setRow w.heap.size ((madeCells #[Value.int .u8 0] n).toList.take 0 ++ Lib.byteCells s.data.toList ++ (madeCells #[Value.int .u8 0] n).toList.drop (0 + s.size)).toArray).rowIs w.heap.size t n
      (fun j => byt (Ms.byteAt (bytesOf s) j)) := by
  refine ⟨_, setRow_heap _ _ _ _ _ _ (Go.Deep.blk_alloc_new _ _), ?_, ?_⟩
  · simp [toList_madeCells_one, Lib.byteCells]; omega
  · intro i hi
    rw [toList_madeCells_one]
    simp only [List.take_zero, List.nil_append, Nat.zero_add, List.drop_replicate, List.getElem?_toArray]
    by_cases h : i < s.size
    · have hl : i < (bytesOf s).length := by simpa using h
      rw [List.getElem?_append_left (by simpa [Lib.byteCells] using h), Ms.byteAt_eq _ _ hl]
      simp [Lib.byteCells, h]
    · have hl : ¬ i < (bytesOf s).length := by simpa using h
      have e : Ms.byteAt (bytesOf s) i = 0 := by
        unfold Ms.byteAt
        rw [List.getD_eq_getElem?_getD, List.getElem?_eq_none (by omega)]; rfl
      rw [e, List.getElem?_append_right (by simp [Lib.byteCells]; omega)]
      have h2 : i - (Lib.byteCells s.data.toList).length < n - s.size := by simp [Lib.byteCells]; omega
      rw [List.getElem?_replicate, if_pos h2]; rfl

theorem Rel.start {s : ByteArray} {w0 W : World} {n : Nat} (hn : 64 * Ms.blocks s.size = n) (hrow : W.rowIs w0.heap.size 5 n (fun j => byt (Ms.byteAt (bytesOf s) j))) (hbel : Below w0.heap.size w0 W) :
    Rel (bytesOf s) w0 n (.int .u64 ((s.size : Int) * 8)) (.int .i64 0) (W.setCell ⟨w0.heap.size, s.size, none⟩ (.int .u8 128)) := by
  have hl : (bytesOf s).length = s.size := by simp
  refine ⟨0, _, by omega, rfl, ?_, hrow.set _ _, fun j hj => ?_, fun j h1 h2 => by omega, hbel.setCell (Nat.le_refl _) _⟩
  · rw [hl]; simp; omega
  · show (if j = s.size then _ else byt (Ms.byteAt (bytesOf s) j)) = _
    by_cases h : j = s.size
    · rw [if_pos h, h, ← hl, Ms.pad_mark]; rfl
    · rw [if_neg h]
      rcases Nat.lt_or_ge j s.size with h2 | h2
      · rw [Ms.pad_low _ _ (by omega)]
      · rw [Ms.pad_zero _ _ (by omega) (by rw [hl, hn]; exact hj)]
        have e : Ms.byteAt (bytesOf s) j = 0 := by
          unfold Ms.byteAt
          rw [List.getD_eq_getElem?_getD, List.getElem?_eq_none (by omega)]; rfl
        rw [e]
theorem Rel.step {l : List UInt8} {w0 w : World} {n k : Nat} {f : Nat → Value} (hk : k < 8) (hn : 64 * Ms.blocks l.length = n) (hrow : w.rowIs w0.heap.size 5 n f) (hlo : ∀ j, j < n - 8 → f j = byt (Ms.byteAt (Ms.pad l) j))
    (hhi : ∀ j, n - k ≤ j → j < n → f j = byt (Ms.byteAt (Ms.pad l) j)) (hbel : Below w0.heap.size w0 w) :
    Rel l w0 n (.int .u64 ((8 * l.length / 256 ^ k / 256 : Nat) : Int)) (.int .i64 ((k + 1 : Nat) : Int)) (w.setCell ⟨w0.heap.size, n - 1 - k, none⟩ (byt (8 * l.length / 256 ^ k % 256))) := by
  have hr := Ms.blocks_room l.length
  refine ⟨k + 1, _, by omega, rfl, by rw [Nat.div_div_eq_div_mul, Nat.pow_succ], hrow.set _ _, fun j hj => ?_, fun j h1 h2 => ?_, hbel.setCell (Nat.le_refl _) _⟩
  · show (if j = n - 1 - k then _ else f j) = _
    rw [if_neg (by omega)]; exact hlo j hj
  · show (if j = n - 1 - k then _ else f j) = _
    by_cases h : j = n - 1 - k
    · rw [if_pos h, h, ← hn, Ms.pad_len l k hk]
    · rw [if_neg h]; exact hhi j (by omega) h2

set_option maxRecDepth 100000 in
set_option maxHeartbeats 800000 in
theorem padded_impl (s : ByteArray) (w : World) (hs : s.size ≤ 20000) :
    Calls Tryd.prog 55 #[.string s] w fun e w' => e = .returned (.slice (some ⟨w.heap.size, 0, none⟩) (64 * Ms.blocks s.size) (64 * Ms.blocks s.size)) ∧ Below w.heap.size w w' ∧ (∀ j, j < 64 * Ms.blocks s.size → w'.cell? ⟨w.heap.size, j, none⟩ = some (byt (Ms.byteAt (Ms.pad (bytesOf s)) j))) ∧ w.heap.size < w'.heap.size := by
  obtain ⟨n, hn⟩ : ∃ n, 64 * Ms.blocks s.size = n := ⟨_, rfl⟩
  have hroom := Ms.blocks_room s.size
  rw [hn] at hroom
  have hn2 : (((s.size : Int) + 8) / 64 + 1) * 64 = (n : Int) := by rw [← hn]; unfold Ms.blocks; omega
  have hmk := run_make_row' (P := Tryd.prog) 64 5 (.int .u8 0) 1 Tryd.underlying64 info_u8 rfl .i64 .i64 n (by rw [← hn]; unfold Ms.blocks; omega) (by rw [← hn]; unfold Ms.blocks; omega)
  have hu8 : (Tryd.prog.info? 5).map (·.size) = some 1 := by kernel_rfl
  have hcp := run_copy_row_string (P := Tryd.prog) (w.alloc (.cells (madeCells #[Value.int .u8 0] n) 5)) 64 9 3 5 w.heap.size 0 n n s (madeCells #[Value.int .u8 0] n) 5 Tryd.underlying64 hu8 (Go.Deep.blk_alloc_new _ _) (by omega) (by rw [size_madeCells]; omega)
  have hrow := made_row w n 5 s (by omega)
  obtain ⟨W, hW⟩ : ∃ x, (w.alloc (.cells (madeCells #[Value.int .u8 0] n) 5)).setRow w.heap.size ((madeCells #[Value.int .u8 0] n).toList.take 0 ++ Lib.byteCells s.data.toList ++ (madeCells #[Value.int .u8 0] n).toList.drop (0 + s.size)).toArray = x := ⟨_, rfl⟩
  rw [hW] at hcp hrow
  have hbel : Below w.heap.size w W := by rw [← hW]; exact below_setRow ((Below.refl _ _).alloc (Nat.le_refl _) _) (Nat.le_refl _) _
  have Hn : Hid (64 * Ms.blocks s.size = n) := hn
  rw [hn]
  clear hn hW
  have hcell : W.cell? ⟨w.heap.size, s.size, none⟩ = some (byt 0) := by
    rw [hrow.cell (by omega)]
    have e : Ms.byteAt (bytesOf s) s.size = 0 := by
      unfold Ms.byteAt
      rw [List.getD_eq_getElem?_getD, List.getElem?_eq_none (by simp)]; rfl
    rw [e]
  have hfr := hrow.frozen s.size
  have HR : Hid (W.rowIs w.heap.size 5 n (fun j => byt (Ms.byteAt (bytesOf s) j))) := hrow
  clear hrow
  go_enter Tryd.func55, Tryd.ntmps55
  have hm : Hid (n ≤ 30000) := by have := Hn.out; unfold Ms.blocks at this; unfold Hid; omega
  have HS := Rel.start Hn.out HR.out hbel
  have hl : (bytesOf s).length = s.size := by simp
  have HSh : Hid (Rel (bytesOf s) w n (.int .u64 ((s.size : Int) * 8)) (.int .i64 0) (W.setCell ⟨w.heap.size, s.size, none⟩ (.int .u8 128))) := HS
  clear HS hl
  go_wp2_with fail
  clear hcp hmk hcell hfr hbel HR hn2
  go_loopw [5, 24] (fun x i wr => Rel (bytesOf s) w n x i wr) (fun _ i _ => 8 - (intOf i).toNat)
  case atStart => exact HSh.out
  case round =>
    clear HSh
    obtain ⟨k, f, hk, rfl, rfl, hrow, hlo, hhi, hbel⟩ := hrel
    have hl : (bytesOf s).length = s.size := by simp
    by_cases hlt : k < 8
    · have HN : Hid (Rel (bytesOf s) w n (.int .u64 ((8 * (bytesOf s).length / 256 ^ k / 256 : Nat) : Int)) (.int .i64 ((k + 1 : Nat) : Int)) (wr.setCell ⟨w.heap.size, n - 1 - k, none⟩ (byt (8 * (bytesOf s).length / 256 ^ k % 256)))) :=
        Rel.step hlt (by rw [hl]; exact Hn.out) hrow hlo hhi hbel
      have hx : 8 * (bytesOf s).length / 256 ^ k ≤ 160000 := Nat.le_trans (Nat.div_le_self _ _) (by omega)
      obtain ⟨o, ho⟩ : ∃ o, wr.cell? ⟨w.heap.size, n - 1 - k, none⟩ = some o := ⟨_, hrow.cell (by omega)⟩
      have hfr := hrow.frozen (n - 1 - k)
      generalize 8 * (bytesOf s).length / 256 ^ k = x at *
      obtain ⟨p, hp⟩ : ∃ p, n - 1 - k = p := ⟨_, rfl⟩
      have hpi : (n : Int) - 1 - (k : Int) = (p : Int) := by omega
      have hpn : (p : Int) < (n : Int) := by omega
      rw [hp] at HN ho hfr
      have Hp : Hid (n - 1 - k = p) := hp
      have hnm := hm.out
      clear hrow hlo hhi hbel hl hp
      go_wp2
      go_roundw
      case rel => exact HN.out
      case measure => simp [intOf]; omega
    · obtain rfl : k = 8 := by omega
      have HF : Hid (∀ j, j < n → wr.cell? ⟨w.heap.size, j, none⟩ = some (byt (Ms.byteAt (Ms.pad (bytesOf s)) j))) := fun j hj => by
        rw [hrow.cell hj]
        rcases Nat.lt_or_ge j (n - 8) with h | h
        · rw [hlo j h]
        · rw [hhi j h hj]
      have HZ : Hid (w.heap.size < wr.heap.size) := hrow.lt
      have HB : Hid (Below w.heap.size w wr) := hbel
      clear hrow hlo hhi hl hbel
      go_wp2
      go_ret
      exact ⟨rfl, HB.out, HF.out, HZ.out⟩
end Go.Proofs.YtkpjdmmgdmbmnabDoor.K3
