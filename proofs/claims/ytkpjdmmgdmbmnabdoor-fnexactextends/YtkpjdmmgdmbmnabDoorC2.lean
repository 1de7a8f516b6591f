/-
  What the program's function that joins texts answers: the texts one behind the other.
-/
import Derived.Test.YtkpjdmmgdmbmnabDoorC0
import Derived.Lib.BufferWrite
import Derived.Deep.OwnRows
import Derived.Laws.CopyOwn
namespace Go.Proofs.YtkpjdmmgdmbmnabDoor.C2
open Go.RowKit
open Go.Proofs.YtkpjdmmgdmbmnabDoor.C0
open Go.Lib (run_copy_row_string run_copy_empty_string)

/-- The texts one behind the other. -/
def cat : List ByteArray → List UInt8
  | [] => []
  | s :: r => s.data.toList ++ cat r
def total : List ByteArray → Nat
  | [] => 0
  | s :: r => s.size + total r
theorem cat_length : ∀ ss : List ByteArray, (cat ss).length = total ss
  | [] => rfl
  | s :: r => by simp only [cat, total, List.length_append, cat_length r]; rfl
theorem total_take_le : ∀ (ss : List ByteArray) (k : Nat), total (ss.take k) ≤ total ss
  | [], k => by simp [total]
  | s :: r, 0 => by simp [total]
  | s :: r, k + 1 => by have := total_take_le r k; simp only [List.take_succ_cons, total]; omega
theorem total_take_succ : ∀ (ss : List ByteArray) (k : Nat) (h : k < ss.length), total (ss.take (k + 1)) = total (ss.take k) + ss[k].size
  | s :: r, 0, h => by simp [total]
  | s :: r, k + 1, h => by
    have := total_take_succ r k (by simpa using h)
    simp only [List.take_succ_cons, total, List.getElem_cons_succ]; omega
theorem cat_take_succ : ∀ (ss : List ByteArray) (k : Nat) (h : k < ss.length), cat (ss.take (k + 1)) = cat (ss.take k) ++ ss[k].data.toList
  | s :: r, 0, h => by simp [cat]
  | s :: r, k + 1, h => by
    have := cat_take_succ r k (by simpa using h)
    simp only [List.take_succ_cons, cat, List.getElem_cons_succ, this, List.append_assoc]

/-- What holds at the head of a round that copies: the first texts lie in the row. -/
def Rel (ss : List ByteArray) (g : Nat) (w0 : World) (at_ i : Value) (w : World) : Prop :=
  ∃ (k : Nat) (cur : List Value), k ≤ ss.length ∧ i = .int .i64 k ∧ at_ = .int .i64 (total (ss.take k) : Nat) ∧ w.heap[g]? = some (.cells cur.toArray 5 (0, 0)) ∧ cur.length = total ss ∧
    cur.take (total (ss.take k)) = Lib.byteCells (cat (ss.take k)) ∧ Below g w0 w

theorem Rel.step {ss : List ByteArray} {g k : Nat} {w0 w : World} {cur : List Value} (hlt : k < ss.length) (hg : w.heap[g]? = some (.cells cur.toArray 5 (0, 0))) (hcl : cur.length = total ss)
    (hct : cur.take (total (ss.take k)) = Lib.byteCells (cat (ss.take k))) (hbel : Below g w0 w) :
    Rel ss g w0 (.int .i64 ((total (ss.take k) : Nat) + (ss[k].size : Nat))) (.int .i64 ((k + 1 : Nat) : Int)) (w.setRow g (cur.toArray.toList.take (total (ss.take k)) ++ Lib.byteCells ss[k].data.toList ++ cur.toArray.toList.drop (total (ss.take k) + ss[k].size)).toArray) ∧
    (ss[k].size = 0 → Rel ss g w0 (.int .i64 (total (ss.take k) : Nat)) (.int .i64 ((k + 1 : Nat) : Int)) w) := by
  have ht := total_take_succ ss k hlt
  have hle := total_take_le ss (k + 1)
  have hbl : (Lib.byteCells ss[k].data.toList).length = ss[k].size := by rw [Lib.byteCells_length]; rfl
  constructor
  · refine ⟨k + 1, _, hlt, rfl, by rw [ht]; simp, setRow_heap w g _ _ _ _ hg, ?_, ?_, below_setRow hbel (Nat.le_refl _) _⟩
    · simp [hbl]; omega
    · rw [ht, cat_take_succ ss k hlt, Lib.byteCells_append, ← hct]
      exact List.take_left' (by simp only [List.length_append, List.length_take, hbl]; omega)
  · intro h0
    have e : total (ss.take (k + 1)) = total (ss.take k) := by omega
    refine ⟨k + 1, cur, hlt, rfl, by rw [e], hg, hcl, ?_, hbel⟩
    have e2 : ss[k].data.toList = [] := by
      apply List.eq_nil_of_length_eq_zero; exact h0
    rw [e, cat_take_succ ss k hlt, e2, List.append_nil, hct]

set_option maxHeartbeats 800000 in
set_option maxRecDepth 100000 in
theorem joined_any (b off n cap : Nat) (ss : List ByteArray) (w : World) (hn : n = ss.length) (hb : b < w.heap.size) (hnm : n ≤ 1000) (ht : total ss ≤ 1000000)
    (hc : ∀ j, j < n → w.cell? ⟨b, off + j, none⟩ = some (.string (ss.getD j ByteArray.empty))) :
    Calls Tryd.prog 39 #[.slice (some ⟨b, off, none⟩) n cap] w fun e w' => e = .returned (.string ⟨(cat ss).toArray⟩) ∧ Below w.heap.size w w' := by
  subst hn
  go_enter Tryd.func39, Tryd.ntmps39
  go_wp2_with fail
  go_loop [3, 12] (fun s i => ∃ k : Nat, k ≤ ss.length ∧ i = .int .i64 k ∧ s = .int .i64 (total (ss.take k) : Nat)) (fun _ i => ss.length - (intOf i).toNat)
  case atStart => exact ⟨0, Nat.zero_le _, rfl, rfl⟩
  case round =>
    obtain ⟨k, hk, rfl, rfl⟩ := hrel
    have htk := total_take_le ss k
    by_cases hlt : k < ss.length
    · have hkl := hlt
      have hcell : w.cell? ⟨b, off + k, none⟩ = some (.string ss[k]) := by rw [hc k hlt]; simp [List.getD, hkl]
      have HT : Hid (total (ss.take (k + 1)) = total (ss.take k) + ss[k].size) := total_take_succ ss k hkl
      have hsz := total_take_le ss (k + 1)
      rw [HT.out] at hsz
      go_wp2
      go_round
      case rel => exact ⟨k + 1, by omega, by go_num, by rw [HT.out]; go_num⟩
      case measure => simp [intOf]; omega
    · obtain rfl : k = ss.length := by omega
      have htt : ss.take ss.length = ss := List.take_length
      have hmk := run_make_row' (P := Tryd.prog) 64 5 (.int .u8 0) 1 Tryd.underlying64 info_u8 rfl .i64 .i64 (total ss) (by omega) (by omega)
      go_wp2
      go_loopw [7, 25] (fun a i wr => Rel ss w.heap.size w a i wr) (fun _ i _ => ss.length - (intOf i).toNat)
      case atStart =>
        refine ⟨0, List.replicate (total ss) (.int .u8 0), Nat.zero_le _, rfl, rfl, ?_, by simp, by simp [total, cat, Lib.byteCells], (Below.refl _ _).alloc (Nat.le_refl _) _⟩
        have : madeCells #[.int .u8 0] (total ss) = (List.replicate (total ss) (.int .u8 0)).toArray := by
          rw [← toList_madeCells_one]
        rw [heap_alloc_new, this]
      case round =>
        obtain ⟨k, cur, hk, rfl, rfl, hg, hcl, hct, hbel⟩ := hrel
        have htk := total_take_le ss k
        by_cases hlt : k < ss.length
        · have hcell : wr.cell? ⟨b, off + k, none⟩ = some (.string ss[k]) := by rw [hbel.cell (by exact hb), hc k (by omega)]; simp [List.getD, hlt]
          have HT : Hid (total (ss.take (k + 1)) = total (ss.take k) + ss[k].size) := total_take_succ ss k hlt
          have hsz := total_take_le ss (k + 1)
          rw [HT.out] at hsz
          have hu8 : (Tryd.prog.info? 5).map (·.size) = some 1 := by kernel_rfl
          have hcp := run_copy_row_string (P := Tryd.prog) wr 64 9 3 5 w.heap.size (total (ss.take k)) (total ss - total (ss.take k)) (total ss - total (ss.take k)) ss[k] cur.toArray 5 Tryd.underlying64 hu8 hg (by omega) (by simp; omega)
          have hnew := Rel.step (w0 := w) hlt hg hcl hct hbel
          by_cases he : total ss = total (ss.take k)
          · have h0 : ss[k].size = 0 := by omega
            have hc0 := run_copy_empty_string (P := Tryd.prog) wr 64 9 3 5 (some ⟨w.heap.size, 0, none⟩) 0 0 ss[k] Tryd.underlying64 (by rw [hu8]; rfl) h0
            have HN : Hid (Rel ss w.heap.size w (.int .i64 (total (ss.take k) : Nat)) (.int .i64 ((k + 1 : Nat) : Int)) wr) := hnew.2 h0
            clear hnew hcp hg hcl hct HT h0
            go_wp2
            go_roundw
            case rel => exact HN.out
            case measure => simp [intOf]; omega
          · have HN : Hid (Rel ss w.heap.size w (.int .i64 ((total (ss.take k) : Nat) + (ss[k].size : Nat))) (.int .i64 ((k + 1 : Nat) : Int)) (wr.setRow w.heap.size (cur.toArray.toList.take (total (ss.take k)) ++ Lib.byteCells ss[k].data.toList ++ cur.toArray.toList.drop (total (ss.take k) + ss[k].size)).toArray)) := hnew.1
            clear hnew hg hcl hct HT
            go_wp2
            go_roundw
            case rel => simpa using HN.out
            case measure => simp [intOf]; omega
        · have hkk : k = ss.length := by omega
          subst hkk
          rw [htt] at hct
          have hown : owns w.heap.size (.slice (some ⟨w.heap.size, 0, none⟩) (total ss) (total ss)) (cat ss) wr := by
            unfold owns
            rw [cat_length]
            refine ⟨by simp [Mb.cells, cat_length], .inr ⟨_, total ss, cur.toArray, rfl, Nat.le_refl _, hg, Nat.le_refl _, by unfold maxLen; omega, by simp [hcl], ?_⟩⟩
            rw [Nat.mul_one, List.toList_toArray, hct]
            simp [Lib.byteCells, Mb.cells]
          have hconv := conv_own hown
          clear hct hg hown hcl
          go_wp2
          go_ret
          exact ⟨rfl, hbel⟩
end Go.Proofs.YtkpjdmmgdmbmnabDoor.C2
