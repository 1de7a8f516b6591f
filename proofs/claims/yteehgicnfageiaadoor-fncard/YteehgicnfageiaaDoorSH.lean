/-
  Rows of shares: how they lie in memory, and which of them are the call's own.
-/
import Derived.Test.YteehgicnfageiaaDoorQC
import Derived.Test.YteehgicnfageiaaDoorHB
namespace Go.Proofs.YteehgicnfageiaaDoor.SH
open Go.RowKit
open Go.Proofs.YteehgicnfageiaaDoor.C0
open Go.Proofs.YteehgicnfageiaaDoor.HB
open Go.Deep (blk_alloc_lt blk_alloc_new nblk_alloc)
abbrev Sh := Int × ByteArray
theorem add0 (b off j : Nat) : (⟨b, off, none⟩ : Addr).add j = ⟨b, off + j, none⟩ := by unfold Addr.add; split <;> simp_all

/-- A slice of shares that reads as l. -/
def Shares (w : World) (v : Value) (l : List Sh) : Prop :=
  ∃ (a : Option Addr) (cap : Nat), v = .slice a l.length cap ∧ l.length ≤ maxLen ∧
    (0 < l.length → ∃ b off, a = some ⟨b, off, none⟩ ∧ b < w.heap.size ∧
      ∀ i s, l[i]? = some s → w.cell? ⟨b, off + i * 2, none⟩ = some (.int .i64 s.1) ∧ w.cell? ⟨b, off + i * 2 + 1, none⟩ = some (.string s.2))

/-- What was written between w and w' lies in new blocks, or in those of S. -/
structure Wrote (S : Nat → Prop) (w w' : World) : Prop where
  os : w'.os = w.os
  tape : w'.tape = w.tape
  output : w'.output = w.output
  size : w.heap.size ≤ w'.heap.size
  block : ∀ k, k < w.heap.size → ¬ S k → w'.heap[k]? = w.heap[k]?
theorem Wrote.refl (S : Nat → Prop) (w : World) : Wrote S w w := ⟨rfl, rfl, rfl, Nat.le_refl _, fun _ _ _ => rfl⟩
theorem Wrote.trans {S : Nat → Prop} {a b c : World} (h : Wrote S a b) (k : Wrote S b c) : Wrote S a c :=
  ⟨k.os.trans h.os, k.tape.trans h.tape, k.output.trans h.output, Nat.le_trans h.size k.size, fun i hi hs => (k.block i (Nat.lt_of_lt_of_le hi h.size) hs).trans (h.block i hi hs)⟩
theorem Wrote.of_below {S : Nat → Prop} {a b : World} (h : Below a.heap.size a b) : Wrote S a b := ⟨h.os, h.tape, h.output, h.size, fun k hk _ => h.block k hk⟩
theorem Wrote.below {S : Nat → Prop} {a b : World} {B : Nat} (h : Wrote S a b) (hB : B ≤ a.heap.size) (hS : ∀ k, S k → B ≤ k) : Below B a b :=
  ⟨h.os, h.tape, h.output, h.size, fun k hk => h.block k (by omega) (fun hs => by have := hS k hs; omega)⟩
theorem Wrote.mono {S S' : Nat → Prop} {a b : World} (h : Wrote S a b) (hS : ∀ k, S k → S' k) : Wrote S' a b :=
  ⟨h.os, h.tape, h.output, h.size, fun k hk hs => h.block k hk (fun q => hs (hS k q))⟩
theorem Wrote.of_grown {S : Nat → Prop} {a b : World} {row : Option Nat} (h : a.grownBy b row) (hS : ∀ k, row = some k → S k) : Wrote S a b :=
  ⟨h.os, h.tape, h.output, h.size, fun k hk hs => h.block k hk (fun e => hs (hS k e.symm))⟩
theorem Wrote.alloc {S : Nat → Prop} {a b : World} (h : Wrote S a b) (o : Obj) : Wrote S a (b.alloc o) :=
  h.trans (Wrote.of_below ((Below.refl _ _).alloc (Nat.le_refl _) o))
theorem Wrote.setCell {S : Nat → Prop} {a b : World} (h : Wrote S a b) {p : Addr} (hp : a.heap.size ≤ p.block ∨ S p.block) (u : Value) : Wrote S a (b.setCell p u) :=
  ⟨h.os, h.tape, h.output, by simpa [World.setCell] using h.size, fun k hk hs => by
    have hne : k ≠ p.block := by
      intro e
      rcases hp with hp | hp
      · omega
      · exact hs (e ▸ hp)
    rw [Below.heap_setCell _ _ _ _ hne]; exact h.block k hk hs⟩
theorem Wrote.drew {S : Nat → Prop} {a b : World} (h : Wrote S a b) : Wrote S a b.drew := ⟨h.os, h.tape, h.output, h.size, h.block⟩

theorem Shares.keep {w w' : World} {v : Value} {l : List Sh} (h : Shares w v l) (hz : w.heap.size ≤ w'.heap.size) (hk : ∀ g, v.ownBlock = some g → g < w.heap.size → w'.heap[g]? = w.heap[g]?) : Shares w' v l := by
  obtain ⟨a, cap, rfl, hl, hc⟩ := h
  refine ⟨a, cap, rfl, hl, fun h0 => ?_⟩
  obtain ⟨b, off, rfl, hb, hcc⟩ := hc h0
  exact ⟨b, off, rfl, by omega, fun i s hs => ⟨(World.cell?_of_block (w := w) (a := ⟨b, off + i * 2, none⟩) (hk b rfl hb)).trans (hcc i s hs).1, (World.cell?_of_block (w := w) (a := ⟨b, off + i * 2 + 1, none⟩) (hk b rfl hb)).trans (hcc i s hs).2⟩⟩
theorem Shares.below {w w' : World} {v : Value} {l : List Sh} (h : Shares w v l) (hb : Below w.heap.size w w') : Shares w' v l :=
  h.keep hb.size fun g _ hg => hb.block g hg
theorem Shares.alloc {w : World} {v : Value} {l : List Sh} (h : Shares w v l) (o : Obj) : Shares (w.alloc o) v l := h.below ((Below.refl _ _).alloc (Nat.le_refl _) o)
theorem Shares.touch {S : Nat → Prop} {w w' : World} {v : Value} {l : List Sh} (h : Shares w v l) (ht : Wrote S w w') (hS : ∀ g, v.ownBlock = some g → ¬ S g) : Shares w' v l :=
  h.keep ht.size fun g hv hg => ht.block g hg (hS g hv)

def cp (l : List Sh) : List Value := l.flatMap fun p => [.int .i64 p.1, .string p.2]
theorem cp_length (l : List Sh) : (cp l).length = l.length * 2 := by
  induction l with
  | nil => rfl
  | cons p l ih => simp only [cp, List.flatMap_cons, List.length_append, List.length_cons, List.length_nil] at ih ⊢; omega
theorem cp_at (l : List Sh) : ∀ (i : Nat) (p : Sh), l[i]? = some p → (cp l)[i * 2]? = some (.int .i64 p.1) ∧ (cp l)[i * 2 + 1]? = some (.string p.2) := by
  induction l with
  | nil => intro i p h; simp at h
  | cons q l ih =>
    intro i p h
    cases i with
    | zero => simp at h; subst h; simp [cp]
    | succ i =>
      have := ih i p (by simpa using h)
      rw [show (i + 1) * 2 = i * 2 + 2 by omega]
      simpa [cp] using this
def OShares (B : Nat) (w : World) (v : Value) (l : List Sh) : Prop := w.ownsRow B 24 2 v l.length (cp l)

theorem OShares.shares {B : Nat} {w : World} {v : Value} {l : List Sh} (h : OShares B w v l) : Shares w v l := by
  have h' := h
  rcases h.2 with ⟨rfl, h0⟩ | ⟨g, cap, cur, rfl, hb, hg, hnc, hcm, hcs, htake⟩
  · exact ⟨none, 0, by rw [h0], by rw [h0]; exact Nat.zero_le _, fun q => by omega⟩
  · refine ⟨_, cap, rfl, by omega, fun _ => ⟨g, 0, rfl, (Array.getElem?_eq_some_iff.1 hg).1, fun i s hs => ?_⟩⟩
    have h2 := cp_at l i s hs
    have h3 := World.ownsRow.cells h' rfl _ _ h2.1
    have h4 := World.ownsRow.cells h' rfl _ _ h2.2
    rw [add0] at h3 h4
    exact ⟨h3, by rw [Nat.add_assoc]; exact h4⟩
theorem own_keep {B : Nat} {e : TypeId} {sz n : Nat} {xs : List Value} {w w' : World} {v : Value} (h : w.ownsRow B e sz v n xs) (hk : ∀ g, v.ownBlock = some g → w'.heap[g]? = w.heap[g]?) : w'.ownsRow B e sz v n xs := by
  refine ⟨h.1, ?_⟩
  rcases h.2 with hn | ⟨g, cap, cur, rfl, hb, hg, rest⟩
  · exact .inl hn
  · exact .inr ⟨g, cap, cur, rfl, hb, (hk g rfl).trans hg, rest⟩
theorem OShares.below {B : Nat} {w w' : World} {v : Value} {l : List Sh} (h : OShares B w v l) (hb : Below w.heap.size w w') : OShares B w' v l :=
  own_keep h fun g hg => hb.block g (h.lt g hg).2
theorem OShares.touch {S : Nat → Prop} {B : Nat} {w w' : World} {v : Value} {l : List Sh} (h : OShares B w v l) (ht : Wrote S w w') (hS : ∀ g, v.ownBlock = some g → ¬ S g) : OShares B w' v l :=
  own_keep h fun g hg => ht.block g (h.lt g hg).2 (hS g hg)
theorem OShares.mono {B B' : Nat} {w : World} {v : Value} {l : List Sh} (h : OShares B w v l) (hb : B' ≤ B) : OShares B' w v l := by
  refine ⟨h.1, ?_⟩
  rcases h.2 with hn | ⟨g, cap, cur, rfl, hb', rest⟩
  · exact .inl hn
  · exact .inr ⟨g, cap, cur, rfl, by omega, rest⟩
theorem OShares.set {B : Nat} {w : World} {v : Value} {l : List Sh} (h : OShares B w v l) {p : Addr} (hp : p.block < B) (u : Value) : OShares B (w.setCell p u) v l :=
  own_keep h fun g hg => Below.heap_setCell _ _ _ _ (by have := (h.lt g hg).1; omega)
/-- What a block of so many cells holds. -/
theorem blk2 {w : World} {g : Nat} {a b : Value} {T : TypeId} (h : w.heap[g]? = some (.cells #[a, b] T (0, 0))) : w.cell? ⟨g, 0, none⟩ = some a ∧ w.cell? ⟨g, 1, none⟩ = some b ∧ (∀ o, w.frozen? ⟨g, o, none⟩ = false) ∧ g < w.heap.size :=
  ⟨by simp [World.cell?, h], by simp [World.cell?, h], fun o => by simp [World.frozen?, h], (Array.getElem?_eq_some_iff.1 h).1⟩
theorem blk3 {w : World} {g : Nat} {a b c : Value} {T : TypeId} (h : w.heap[g]? = some (.cells #[a, b, c] T (0, 0))) : w.cell? ⟨g, 0, none⟩ = some a ∧ w.cell? ⟨g, 1, none⟩ = some b ∧ w.cell? ⟨g, 2, none⟩ = some c ∧ (∀ o, w.frozen? ⟨g, o, none⟩ = false) ∧ g < w.heap.size :=
  ⟨by simp [World.cell?, h], by simp [World.cell?, h], by simp [World.cell?, h], fun o => by simp [World.frozen?, h], (Array.getElem?_eq_some_iff.1 h).1⟩
theorem blk4 {w : World} {g : Nat} {a b c d : Value} {T : TypeId} (h : w.heap[g]? = some (.cells #[a, b, c, d] T (0, 0))) : w.cell? ⟨g, 0, none⟩ = some a ∧ w.cell? ⟨g, 1, none⟩ = some b ∧ w.cell? ⟨g, 2, none⟩ = some c ∧ w.cell? ⟨g, 3, none⟩ = some d ∧ (∀ o, w.frozen? ⟨g, o, none⟩ = false) ∧ g < w.heap.size :=
  ⟨by simp [World.cell?, h], by simp [World.cell?, h], by simp [World.cell?, h], by simp [World.cell?, h], fun o => by simp [World.frozen?, h], (Array.getElem?_eq_some_iff.1 h).1⟩
end Go.Proofs.YteehgicnfageiaaDoor.SH
