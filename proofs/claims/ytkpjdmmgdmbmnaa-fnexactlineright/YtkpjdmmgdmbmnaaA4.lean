/-
  Rows of lines and of texts, and whether a log is right, as the specification says it (given its links).
-/
import Derived.Test.YtkpjdmmgdmbmnaaA2
import Derived.Deep.DeepCutAuto
namespace Go.Proofs.Ytkpjdmmgdmbmnaa.A4
open Go.RowKit
open Go.Proofs.Ytkpjdmmgdmbmnaa.C0 Go.Proofs.Ytkpjdmmgdmbmnaa.HB
open Go.Proofs.Ytkpjdmmgdmbmnaa.A0 Go.Proofs.Ytkpjdmmgdmbmnaa.A1 Go.Proofs.Ytkpjdmmgdmbmnaa.A2
open Go.Proofs.Ytkpjdmmgdmbmnaa.C4 (nameB)
/-- A line whose parts are of their kinds. -/
def LnW (x : Ln) : Prop := x.name.size ≤ maxLen ∧ x.sum.size ≤ maxLen ∧ (-9223372036854775808 ≤ x.kind ∧ x.kind ≤ 9223372036854775807) ∧ ∀ c ∈ x.cards, -9223372036854775808 ≤ c ∧ c ≤ 9223372036854775807
def lnZ : Ln := ⟨0, ⟨#[]⟩, ⟨#[]⟩, []⟩
/-- A slice of texts that reads as l. -/
def SRow (w : World) (v : Value) (l : List ByteArray) : Prop :=
  ∃ (a : Option Addr) (cap : Nat), v = .slice a l.length cap ∧ l.length ≤ maxLen ∧
    (0 < l.length → ∃ b off, a = some ⟨b, off, none⟩ ∧ b < w.heap.size ∧ ∀ i s, l[i]? = some s → w.cell? ⟨b, off + i, none⟩ = some (.string s))
/-- A slice of lines that reads as l. -/
def LRow (w : World) (v : Value) (l : List Ln) : Prop :=
  ∃ (a : Option Addr) (cap : Nat), v = .slice a l.length cap ∧ l.length ≤ maxLen ∧
    (0 < l.length → ∃ b off, a = some ⟨b, off, none⟩ ∧ b < w.heap.size ∧ ∀ i x, l[i]? = some x → ∃ vc, IRow w vc x.cards ∧
      w.cell? ⟨b, off + i * 4, none⟩ = some (.int .i64 x.kind) ∧ w.cell? ⟨b, off + i * 4 + 1, none⟩ = some (.string x.name) ∧ w.cell? ⟨b, off + i * 4 + 2, none⟩ = some (.string x.sum) ∧ w.cell? ⟨b, off + i * 4 + 3, none⟩ = some vc)
theorem SRow.below {w w' : World} {v : Value} {l : List ByteArray} (h : SRow w v l) (hb : Below w.heap.size w w') : SRow w' v l := by
  obtain ⟨a, cap, rfl, hl, hc⟩ := h
  refine ⟨a, cap, rfl, hl, fun h0 => ?_⟩
  obtain ⟨b, off, rfl, hbb, hcc⟩ := hc h0
  exact ⟨b, off, rfl, Nat.lt_of_lt_of_le hbb hb.size, fun i s hs => (hb.cell (p := ⟨b, off + i, none⟩) hbb).trans (hcc i s hs)⟩
theorem LRow.below {w w' : World} {v : Value} {l : List Ln} (h : LRow w v l) (hb : Below w.heap.size w w') : LRow w' v l := by
  obtain ⟨a, cap, rfl, hl, hc⟩ := h
  refine ⟨a, cap, rfl, hl, fun h0 => ?_⟩
  obtain ⟨b, off, rfl, hbb, hcc⟩ := hc h0
  refine ⟨b, off, rfl, Nat.lt_of_lt_of_le hbb hb.size, fun i x hx => ?_⟩
  obtain ⟨vc, h0, h1, h2, h3, h4⟩ := hcc i x hx
  exact ⟨vc, h0.below hb, (hb.cell (p := ⟨b, off + i * 4, none⟩) hbb).trans h1, (hb.cell (p := ⟨b, off + i * 4 + 1, none⟩) hbb).trans h2, (hb.cell (p := ⟨b, off + i * 4 + 2, none⟩) hbb).trans h3, (hb.cell (p := ⟨b, off + i * 4 + 3, none⟩) hbb).trans h4⟩
def lAt (l : List Ln) (k : Nat) : Ln := l.getD k lnZ
def sAt (l : List ByteArray) (k : Nat) : ByteArray := l.getD k ⟨#[]⟩
theorem lAt_get {l : List Ln} {k : Nat} (h : k < l.length) : l[k]? = some (lAt l k) := by unfold lAt; simp [h]
theorem sAt_get {l : List ByteArray} {k : Nat} (h : k < l.length) : l[k]? = some (sAt l k) := by unfold sAt; simp [h]
def boxT : ByteArray := ⟨#[98, 111, 120]⟩
def lastAt (ks : List ByteArray) (k : Nat) : ByteArray := if k = 0 then boxT else sAt ks (k - 1)
section
variable (lk : ByteArray → Ln → ByteArray)
def okLk (ls : List Ln) (ks : List ByteArray) (k : Nat) : Bool := lineB (lAt ls k) && (sAt ks k).toList == (lk (lastAt ks k) (lAt ls k)).toList
def upLk (ls : List Ln) (ks : List ByteArray) : Nat → Bool
  | 0 => true
  | k + 1 => upLk ls ks k && okLk lk ls ks k
def auditB (ls : List Ln) (ks : List ByteArray) : Bool := decide (ls.length ≤ 12) && (decide (ks.length = ls.length) && upLk lk ls ks ls.length)
variable {lk}
theorem upLk_no {ls : List Ln} {ks : List ByteArray} {k : Nat} (h : okLk lk ls ks k = false) : ∀ m, k < m → upLk lk ls ks m = false
  | 0, hm => by omega
  | m + 1, hm => by
    unfold upLk
    by_cases e : k = m
    · subst e; rw [h]; simp
    · rw [upLk_no h m (by omega)]; rfl
theorem upLk_yes {ls : List Ln} {ks : List ByteArray} {k : Nat} (h : upLk lk ls ks k = true) (h2 : okLk lk ls ks k = true) : upLk lk ls ks (k + 1) = true := by unfold upLk; rw [h, h2]; rfl
theorem audit_no {ls : List Ln} {ks : List ByteArray} {k : Nat} (hk : k < ls.length) (h : okLk lk ls ks k = false) : auditB lk ls ks = false := by
  unfold auditB; rw [upLk_no h _ hk]; simp
theorem lastAt_succ (ks : List ByteArray) (k : Nat) : lastAt ks (k + 1) = sAt ks k := rfl
end
/-- What a right line's text weighs. -/
theorem line_small {x : Ln} (h : lineB x = true) : x.cards.length ≤ 6 ∧ (lineT x).size ≤ 200 := by
  unfold lineB at h
  obtain ⟨_, h⟩ := Bool.and_eq_true_iff.1 h
  obtain ⟨h1, h⟩ := Bool.and_eq_true_iff.1 h
  obtain ⟨h2, h3⟩ := Bool.and_eq_true_iff.1 h
  unfold cardsB at h3
  obtain ⟨_, h3⟩ := Bool.and_eq_true_iff.1 h3
  have hc : (x.cards.length : Int) ≤ 6 := of_decide_eq_true h3
  have hn : x.name.size ≤ 20 := by
    rcases Bool.or_eq_true_iff.1 h1 with q | q
    · have := of_decide_eq_true q; omega
    · exact ((C4.nameB_iff _).1 q).2.1
  have hs : x.sum.size ≤ 32 := by
    rcases Bool.or_eq_true_iff.1 h2 with q | q
    · have := of_decide_eq_true q; omega
    · have := of_decide_eq_true q; omega
  refine ⟨by omega, ?_⟩
  have a := upT_size x x.cards.length
  have b := (baseT_size x).2
  unfold lineT
  omega
end Go.Proofs.Ytkpjdmmgdmbmnaa.A4
