/-
  A disk on lists: when it is right, what a sector reads as, what is there behind a flush and behind a crash.
-/

namespace Go.Proofs.Ytfiabbfdnmldjaa.Dk
abbrev Pend := Int × ByteArray
def pOk (n : Nat) (p : Pend) : Bool := decide (0 ≤ p.1) && decide (p.1 < n) && decide (p.2.size ≤ 64)
def rightB (ss : List ByteArray) (ps : List Pend) : Bool :=
  decide (1 ≤ ss.length) && decide (ss.length ≤ 64) && decide (ps.length ≤ 200) && ss.all (fun s => decide (s.size ≤ 64)) && ps.all (pOk ss.length)
theorem pOk_iff (n : Nat) (p : Pend) : pOk n p = true ↔ 0 ≤ p.1 ∧ p.1 < n ∧ p.2.size ≤ 64 := by simp [pOk, and_assoc]
theorem right_iff (ss : List ByteArray) (ps : List Pend) :
    rightB ss ps = true ↔ 1 ≤ ss.length ∧ ss.length ≤ 64 ∧ ps.length ≤ 200 ∧ (∀ s ∈ ss, s.size ≤ 64) ∧ ∀ p ∈ ps, 0 ≤ p.1 ∧ p.1 < ss.length ∧ p.2.size ≤ 64 := by
  simp [rightB, pOk_iff, and_assoc, List.all_eq_true]
theorem right_no {ss : List ByteArray} {ps : List Pend} (h : ¬ (1 ≤ ss.length ∧ ss.length ≤ 64 ∧ ps.length ≤ 200 ∧ (∀ s ∈ ss, s.size ≤ 64) ∧ ∀ p ∈ ps, 0 ≤ p.1 ∧ p.1 < ss.length ∧ p.2.size ≤ 64)) : rightB ss ps = false := by
  rw [← right_iff] at h; simpa using h
/-- What a sector reads as: the last Pending one's, or the sector. -/
def readOf (t : ByteArray) (ps : List Pend) (i : Int) : ByteArray := ps.foldl (fun t p => if p.1 = i then p.2 else t) t
theorem readOf_snoc (t : ByteArray) (ps : List Pend) (p : Pend) (i : Int) : readOf t (ps ++ [p]) i = if p.1 = i then p.2 else readOf t ps i := by simp [readOf]
theorem readOf_none (t : ByteArray) (i : Int) : ∀ ps : List Pend, (∀ q ∈ ps, q.1 ≠ i) → readOf t ps i = t := by
  intro ps
  induction ps generalizing t with
  | nil => intro _; rfl
  | cons p ps ih =>
    intro h
    show readOf (if p.1 = i then p.2 else t) ps i = t
    rw [if_neg (h p (by simp)), ih t (fun q hq => h q (by simp [hq]))]
theorem readOf_append (t : ByteArray) (i : Int) (l m : List Pend) : readOf t (l ++ m) i = readOf (readOf t l i) m i := by simp [readOf]
theorem readOf_found (t : ByteArray) (i : Int) (ps : List Pend) (k : Nat) (p : Pend) (hp : ps[k]? = some p) (he : p.1 = i) (hn : ∀ q ∈ ps.drop (k + 1), q.1 ≠ i) : readOf t ps i = p.2 := by
  have h1 : ps = ps.take k ++ [p] ++ ps.drop (k + 1) := by
    have h2 : ps.take (k + 1) = ps.take k ++ [p] := by rw [List.take_add_one, hp]; rfl
    rw [← h2, List.take_append_drop]
  rw [h1, readOf_append, readOf_none _ _ _ hn, readOf_snoc, if_pos he]
/-- All Pending, in order, are in the sectors. -/
def putOne (ss : List ByteArray) (p : Pend) : List ByteArray := ss.set p.1.toNat p.2
def flushOf (ss : List ByteArray) (ps : List Pend) : List ByteArray := ps.foldl putOne ss
theorem flushOf_length (ps : List Pend) : ∀ ss : List ByteArray, (flushOf ss ps).length = ss.length := by
  induction ps with
  | nil => intro ss; rfl
  | cons p ps ih => intro ss; simp only [flushOf, List.foldl_cons] at ih ⊢; rw [ih]; simp [putOne]
theorem flushOf_snoc (ss : List ByteArray) (ps : List Pend) (p : Pend) : flushOf ss (ps ++ [p]) = putOne (flushOf ss ps) p := by simp [flushOf]
/-- Those that are kept. -/
def keptAt (keep : List Int) (i : Nat) : Bool := match keep[i]? with | some x => decide (0 < x) | none => false
def crashTo (ss : List ByteArray) (ps : List Pend) (keep : List Int) : Nat → List ByteArray
  | 0 => ss
  | k + 1 => match ps[k]? with
    | some p => if keptAt keep k then putOne (crashTo ss ps keep k) p else crashTo ss ps keep k
    | none => crashTo ss ps keep k
def crashOf (ss : List ByteArray) (ps : List Pend) (keep : List Int) : List ByteArray := crashTo ss ps keep ps.length
theorem crashTo_length (ss : List ByteArray) (ps : List Pend) (keep : List Int) : ∀ k, (crashTo ss ps keep k).length = ss.length
  | 0 => rfl
  | k + 1 => by
    unfold crashTo
    split
    · split
      · simp [putOne, crashTo_length ss ps keep k]
      · exact crashTo_length ss ps keep k
    · exact crashTo_length ss ps keep k
theorem crashTo_kept (ss : List ByteArray) (ps : List Pend) (keep : List Int) (k : Nat) (p : Pend) (hp : ps[k]? = some p) (hk : keptAt keep k = true) : crashTo ss ps keep (k + 1) = putOne (crashTo ss ps keep k) p := by
  simp [crashTo, hp, hk]
theorem crashTo_lost (ss : List ByteArray) (ps : List Pend) (keep : List Int) (k : Nat) (hk : keptAt keep k = false) : crashTo ss ps keep (k + 1) = crashTo ss ps keep k := by
  simp only [crashTo, hk]; split <;> simp
theorem putOne_length (ss : List ByteArray) (p : Pend) : (putOne ss p).length = ss.length := by simp [putOne]
/-- What a call tells of a disk: sectors, what is pending, a text, a code. -/
structure Out where
  ss : List ByteArray
  ps : List Pend
  d : ByteArray
  k : Int
def ill (k : Int) : Out := ⟨[], [], ⟨#[]⟩, k⟩
def readR (ss : List ByteArray) (ps : List Pend) (i : Int) : Out :=
  if rightB ss ps = false then ill 1 else if 0 ≤ i ∧ i < ss.length then ⟨ss, ps, readOf (ss.getD i.toNat ⟨#[]⟩) ps i, 0⟩ else ill 8
def writeR (ss : List ByteArray) (ps : List Pend) (i : Int) (d : ByteArray) : Out :=
  if 8000 < d.size then ill 2 else if rightB ss ps = false ∨ 64 < d.size then ill 1 else if 0 ≤ i ∧ i < ss.length then (if 200 ≤ ps.length then ill 9 else ⟨ss, ps ++ [(i, d)], ⟨#[]⟩, 0⟩) else ill 8
def flushR (ss : List ByteArray) (ps : List Pend) : Out :=
  if rightB ss ps = false then ill 1 else ⟨flushOf ss ps, [], ⟨#[]⟩, 0⟩
def crashR (ss : List ByteArray) (ps : List Pend) (keep : List Int) : List ByteArray × List Pend :=
  if 400 < keep.length then ([], []) else if rightB ss ps = false then (ss, ps) else (crashOf ss ps keep, [])
end Go.Proofs.Ytfiabbfdnmldjaa.Dk
