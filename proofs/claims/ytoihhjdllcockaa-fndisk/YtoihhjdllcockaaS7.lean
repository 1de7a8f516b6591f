/-
  Rows of numbers: the laws' own copying, comparing and marking of them.
-/
import Derived.Test.YtoihhjdllcockaaTC
namespace Go.Proofs.Ytoihhjdllcockaa.S7
open Go.RowKit
open Go.Proofs.Ytoihhjdllcockaa.C0 Go.Proofs.Ytoihhjdllcockaa.S0 Go.Proofs.Ytoihhjdllcockaa.S1 Go.Proofs.Ytoihhjdllcockaa.S3 Go.Proofs.Ytoihhjdllcockaa.S4 Go.Proofs.Ytoihhjdllcockaa.O1 Go.Proofs.Ytoihhjdllcockaa.TC
theorem info_i64 : (Try.prog.info? 2).map (fun i => (i.zero, i.size, i.bytes)) = some (some (.int .i64 0), 1, 8) := by kernel_rfl
def ci (l : List Int) : List Value := l.map (.int .i64)
theorem ci_length (l : List Int) : (ci l).length = l.length * 1 := by simp [ci]
def OInts (B : Nat) (w : World) (v : Value) (l : List Int) : Prop := w.ownsRow B 2 1 v l.length (ci l)
theorem OInts.ints {B : Nat} {w : World} {v : Value} {l : List Int} (h : OInts B w v l) : Ints w v l := by
  have h' := h
  rcases h.2 with ⟨rfl, h0⟩ | ⟨g, cap, cur, rfl, hb, hg, hnc, hcm, hcs, htake⟩
  · exact ⟨none, 0, by rw [h0], by rw [h0]; exact Nat.zero_le _, fun q => by omega⟩
  · refine ⟨_, cap, rfl, by omega, fun _ => ⟨g, 0, rfl, (Array.getElem?_eq_some_iff.1 hg).1, fun i s hs => ?_⟩⟩
    have := World.ownsRow.cells h' rfl i (.int .i64 s) (by simp [ci, hs])
    rwa [add0] at this
theorem OInts.below {B : Nat} {w w' : World} {v : Value} {l : List Int} (h : OInts B w v l) (hb : Below w.heap.size w w') : OInts B w' v l :=
  own_keep h fun g hg => hb.block g (h.lt g hg).2
theorem OInts.touch {S : Nat → Prop} {B : Nat} {w w' : World} {v : Value} {l : List Int} (h : OInts B w v l) (ht : Wrote S w w') (hS : ∀ g, v.ownBlock = some g → ¬ S g) : OInts B w' v l :=
  own_keep h fun g hg => ht.block g (h.lt g hg).2 (hS g hg)
theorem oints_of_row {B b : Nat} {w : World} {l : List Int} {f : Nat → Value} (h : w.rowIs b 2 l.length f) (hf : ∀ i s, l[i]? = some s → f i = .int .i64 s) (hB : B ≤ b) (hm : l.length ≤ maxLen) :
    OInts B w (.slice (some ⟨b, 0, none⟩) l.length l.length) l := by
  obtain ⟨c, hb, hn, hc⟩ := h
  refine ⟨ci_length l, .inr ⟨b, l.length, c, rfl, hB, hb, Nat.le_refl _, hm, by omega, ?_⟩⟩
  apply List.ext_getElem?
  intro i
  rw [List.getElem?_take]
  by_cases hi : i < l.length
  · obtain ⟨s, hs⟩ : ∃ s, l[i]? = some s := ⟨_, List.getElem?_eq_getElem hi⟩
    rw [if_pos (by omega)]
    have := hc i hi
    rw [hf i s hs] at this
    simp [ci, hs] at this ⊢
    exact this
  · rw [if_neg (by omega), List.getElem?_eq_none (by rw [ci_length]; omega)]
end Go.Proofs.Ytoihhjdllcockaa.S7
