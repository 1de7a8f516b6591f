/-
  A put, on lists: its steps, what is there behind them, and what is read then.
-/
import Derived.Test.YtfiabbfdnmldjaaGreatDoorV4
import Derived.Test.YtfiabbfdnmldjaaGreatDoorU5
import Derived.Test.YtfiabbfdnmldjaaGreatDoorPH
import Derived.Test.YtfiabbfdnmldjaaGreatDoorPA
namespace Go.Proofs.YtfiabbfdnmldjaaGreatDoor.W0
open Go.Proofs.YtfiabbfdnmldjaaGreatDoor.C6 Go.Proofs.YtfiabbfdnmldjaaGreatDoor.C7 Go.Proofs.YtfiabbfdnmldjaaGreatDoor.U0 Go.Proofs.YtfiabbfdnmldjaaGreatDoor.U2 Go.Proofs.YtfiabbfdnmldjaaGreatDoor.U4 Go.Proofs.YtfiabbfdnmldjaaGreatDoor.U8 Go.Proofs.YtfiabbfdnmldjaaGreatDoor.U9 Go.Proofs.YtfiabbfdnmldjaaGreatDoor.V0 Go.Proofs.YtfiabbfdnmldjaaGreatDoor.V3 Go.Proofs.YtfiabbfdnmldjaaGreatDoor.V4
open Go.Proofs.YtfiabbfdnmldjaaGreatDoor.Dk
/-- The part of a text that stands in the side's sector i. -/
def chunk (t : ByteArray) (i : Nat) : ByteArray := ⟨((t.data.toList.drop (64 * i)).take 64).toArray⟩
def secN (t : ByteArray) : Nat := (t.size + 63) / 64
def pendL (f : Nat) (t : ByteArray) (n : Nat) : List Pend := (List.range n).map fun i => (((f + i : Nat) : Int), chunk t i)
def wrL (f : Nat) (t : ByteArray) (n : Nat) : List St := (List.range n).map fun i => St.write ((f + i : Nat) : Int) (chunk t i)
/-- All steps of a put. -/
def putL (f : Nat) (t h : ByteArray) : List St := wrL f t (secN t) ++ [.flush, .write 0 h, .flush]
theorem chunk_size (t : ByteArray) (i : Nat) : (chunk t i).size = min 64 (t.size - 64 * i) := by
  unfold chunk
  rw [size_mk, List.length_take, List.length_drop, size_list]
theorem chunk_list (t : ByteArray) (i : Nat) : (chunk t i).data.toList = (t.data.toList.drop (64 * i)).take 64 := by simp [chunk]
theorem wrL_length (f : Nat) (t : ByteArray) (n : Nat) : (wrL f t n).length = n := by simp [wrL]
theorem putL_length (f : Nat) (t h : ByteArray) : (putL f t h).length = secN t + 3 := by simp [putL, wrL_length]
theorem wrL_succ (f : Nat) (t : ByteArray) (n : Nat) : wrL f t (n + 1) = wrL f t n ++ [.write ((f + n : Nat) : Int) (chunk t n)] := by simp [wrL, List.range_succ]
theorem pendL_succ (f : Nat) (t : ByteArray) (n : Nat) : pendL f t (n + 1) = pendL f t n ++ [(((f + n : Nat) : Int), chunk t n)] := by simp [pendL, List.range_succ]
theorem wrL_take (f : Nat) (t : ByteArray) (n k : Nat) (h : k ≤ n) : (wrL f t n).take k = wrL f t k := by
  unfold wrL
  rw [← List.map_take, List.take_range, Nat.min_eq_left h]
theorem runS_append : ∀ (l m : List St) (ss : List ByteArray) (ps : List Pend), runS ss ps (l ++ m) = if (runS ss ps l).k = 0 then runS (runS ss ps l).ss (runS ss ps l).ps m else runS ss ps l
  | [], m, ss, ps => by simp [runS]
  | s :: l, m, ss, ps => by
    show (if (doSt ss ps s).k = 0 then runS (doSt ss ps s).ss (doSt ss ps s).ps (l ++ m) else ill (doSt ss ps s).k) = _
    by_cases h : (doSt ss ps s).k = 0
    · have e : runS ss ps (s :: l) = runS (doSt ss ps s).ss (doSt ss ps s).ps l := by
        show (if (doSt ss ps s).k = 0 then _ else _) = _
        rw [if_pos h]
      rw [if_pos h, e, runS_append l m]
    · have e : runS ss ps (s :: l) = ill (doSt ss ps s).k := by
        show (if (doSt ss ps s).k = 0 then _ else _) = _
        rw [if_neg h]
      rw [if_neg h, e, if_neg (show ¬ (ill (doSt ss ps s).k).k = 0 from h)]
theorem runS_one (ss : List ByteArray) (ps : List Pend) (s : St) (h : (runS ss ps [s]).k = 0) : (doSt ss ps s).k = 0 ∧ runS ss ps [s] = ⟨(doSt ss ps s).ss, (doSt ss ps s).ps, ⟨#[]⟩, 0⟩ := by
  have e : runS ss ps [s] = if (doSt ss ps s).k = 0 then ⟨(doSt ss ps s).ss, (doSt ss ps s).ps, ⟨#[]⟩, 0⟩ else ill (doSt ss ps s).k := rfl
  by_cases g : (doSt ss ps s).k = 0
  · rw [e, if_pos g]; exact ⟨g, rfl⟩
  · rw [e, if_neg g] at h; exact absurd h g
theorem runS_split {l m : List St} {ss : List ByteArray} {ps : List Pend} (h : (runS ss ps (l ++ m)).k = 0) : (runS ss ps l).k = 0 ∧ runS ss ps (l ++ m) = runS (runS ss ps l).ss (runS ss ps l).ps m := by
  rw [runS_append] at h ⊢
  by_cases g : (runS ss ps l).k = 0
  · rw [if_pos g]; exact ⟨g, rfl⟩
  · rw [if_neg g] at h; exact absurd h g
theorem run_wr (f : Nat) (t : ByteArray) (ss : List ByteArray) (ps : List Pend) : ∀ n, (runS ss ps (wrL f t n)).k = 0 → runS ss ps (wrL f t n) = ⟨ss, ps ++ pendL f t n, ⟨#[]⟩, 0⟩ ∧ (0 < n → rightB ss (ps ++ pendL f t n) = true)
  | 0, _ => by simp [wrL, pendL, runS]
  | n + 1, h => by
    rw [wrL_succ] at h ⊢
    obtain ⟨h1, e1⟩ := runS_split h
    obtain ⟨e2, -⟩ := run_wr f t ss ps n h1
    rw [e1] at h
    rw [e2] at h e1
    obtain ⟨h3, e3⟩ := runS_one _ _ _ h
    obtain ⟨-, -, -, -, -, e4, e5⟩ := write_ok (ss := ss) (ps := ps ++ pendL f t n) h3
    rw [e1, e3, pendL_succ, ← List.append_assoc]
    have e6 : doSt ss (ps ++ pendL f t n) (.write ((f + n : Nat) : Int) (chunk t n)) = writeR ss (ps ++ pendL f t n) ((f + n : Nat) : Int) (chunk t n) := rfl
    rw [e6, e4]
    exact ⟨rfl, fun _ => e5⟩
theorem read_pend (f : Nat) (t x : ByteArray) (j : Nat) : ∀ n, readOf x (pendL f t n) (j : Int) = if f ≤ j ∧ j < f + n then chunk t (j - f) else x
  | 0 => by rw [if_neg (by omega)]; rfl
  | n + 1 => by
    rw [pendL_succ, readOf_snoc, read_pend f t x j n]
    by_cases e : j = f + n
    · subst e
      rw [if_pos rfl, if_pos (by omega), Nat.add_sub_cancel_left]
    · rw [if_neg (by show ¬ ((f + n : Nat) : Int) = (j : Int); omega)]
      by_cases h : f ≤ j ∧ j < f + n
      · rw [if_pos h, if_pos (by omega)]
      · rw [if_neg h, if_neg (by omega)]
end Go.Proofs.YtfiabbfdnmldjaaGreatDoor.W0
