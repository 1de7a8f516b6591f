/-
  The steps of a put, on lists: each a write or a flush; what is there behind the first of them.
-/
import Derived.Test.YtfiabbfdnmldjaaDoorMA
namespace Go.Proofs.YtfiabbfdnmldjaaDoor.Dk
inductive St
  | write (i : Int) (d : ByteArray)
  | flush
def doSt (ss : List ByteArray) (ps : List Pend) : St → Out
  | .write i d => writeR ss ps i d
  | .flush => flushR ss ps
/-- Behind all steps, or the code of the first one that was not done. -/
def runS : List ByteArray → List Pend → List St → Out
  | ss, ps, [] => ⟨ss, ps, ⟨#[]⟩, 0⟩
  | ss, ps, s :: l => if (doSt ss ps s).k = 0 then runS (doSt ss ps s).ss (doSt ss ps s).ps l else ill (doSt ss ps s).k
theorem doSt_right {ss : List ByteArray} {ps : List Pend} {s : St} (h : (doSt ss ps s).k = 0) : rightB (doSt ss ps s).ss (doSt ss ps s).ps = true := by
  cases s with
  | write i d =>
    have := write_ok (ss := ss) (ps := ps) (i := i) (d := d) h
    show rightB (writeR ss ps i d).ss (writeR ss ps i d).ps = true
    rw [this.2.2.2.2.2.1]; exact this.2.2.2.2.2.2
  | flush =>
    have := flush_ok (ss := ss) (ps := ps) h
    show rightB (flushR ss ps).ss (flushR ss ps).ps = true
    rw [this.2.1]; exact this.2.2
theorem runS_drop {ss : List ByteArray} {ps : List Pend} {l : List St} {k : Nat} {s : St} (hs : l[k]? = some s) (h : (doSt ss ps s).k = 0) : runS ss ps (l.drop k) = runS (doSt ss ps s).ss (doSt ss ps s).ps (l.drop (k + 1)) := by
  have hk := (List.getElem?_eq_some_iff.1 hs)
  obtain ⟨h1, h2⟩ := hk
  rw [List.drop_eq_getElem_cons h1, h2]
  show (if (doSt ss ps s).k = 0 then _ else _) = _
  rw [if_pos h]
theorem runS_stop {ss : List ByteArray} {ps : List Pend} {l : List St} {k : Nat} {s : St} (hs : l[k]? = some s) (h : ¬ (doSt ss ps s).k = 0) : runS ss ps (l.drop k) = ill (doSt ss ps s).k := by
  obtain ⟨h1, h2⟩ := List.getElem?_eq_some_iff.1 hs
  rw [List.drop_eq_getElem_cons h1, h2]
  show (if (doSt ss ps s).k = 0 then _ else _) = _
  rw [if_neg h]
theorem runS_end {ss : List ByteArray} {ps : List Pend} {l : List St} {k : Nat} (h : l.length ≤ k) : runS ss ps (l.drop k) = ⟨ss, ps, ⟨#[]⟩, 0⟩ := by
  rw [List.drop_of_length_le h]; rfl
theorem runS_sizes : ∀ (l : List St) (ss : List ByteArray) (ps : List Pend), rightB ss ps = true → (runS ss ps l).ss.length ≤ 64 ∧ (runS ss ps l).ps.length ≤ 200
  | [], ss, ps, h => by
    obtain ⟨_, h2, h3, _, _⟩ := (right_iff ss ps).1 h
    exact ⟨h2, h3⟩
  | s :: l, ss, ps, _ => by
    show (if (doSt ss ps s).k = 0 then _ else _ : Out).ss.length ≤ 64 ∧ (if (doSt ss ps s).k = 0 then _ else _ : Out).ps.length ≤ 200
    by_cases hk : (doSt ss ps s).k = 0
    · rw [if_pos hk]
      exact runS_sizes l _ _ (doSt_right hk)
    · rw [if_neg hk]
      simp [ill]
end Go.Proofs.YtfiabbfdnmldjaaDoor.Dk
