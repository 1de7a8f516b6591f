/-
  The last link of a log, in the specification and in the program.
-/
import Derived.Test.YtkpjdmmgdmbmnabDoorI3
namespace Go.Proofs.YtkpjdmmgdmbmnabDoor.I4
open Go.RowKit
open Go.Proofs.YtkpjdmmgdmbmnabDoor.C0 Go.Proofs.YtkpjdmmgdmbmnabDoor.HB
open Go.Proofs.YtkpjdmmgdmbmnabDoor.A0 Go.Proofs.YtkpjdmmgdmbmnabDoor.A1 Go.Proofs.YtkpjdmmgdmbmnabDoor.A2 Go.Proofs.YtkpjdmmgdmbmnabDoor.A3 Go.Proofs.YtkpjdmmgdmbmnabDoor.A4 Go.Proofs.YtkpjdmmgdmbmnabDoor.I1 Go.Proofs.YtkpjdmmgdmbmnabDoor.I2 Go.Proofs.YtkpjdmmgdmbmnabDoor.I3
open Go.Proofs.YtkpjdmmgdmbmnabDoor.K3 (bytesOf)
theorem linkT_size (a : ByteArray) (x : Ln) : (linkT a x).size = 32 := digB_size _
def endR (ls : List Ln) (ks : List ByteArray) : ByteArray := if auditB linkT ls ks = true then (if ks.length = 0 then digB boxT else sAt ks (ks.length - 1)) else ⟨#[]⟩
theorem audit_parts {ls : List Ln} {ks : List ByteArray} (h : auditB linkT ls ks = true) : ls.length ≤ 12 ∧ ks.length = ls.length ∧ upLk linkT ls ks ls.length = true := by
  unfold auditB at h
  obtain ⟨h1, h⟩ := Bool.and_eq_true_iff.1 h
  obtain ⟨h2, h3⟩ := Bool.and_eq_true_iff.1 h
  exact ⟨of_decide_eq_true h1, of_decide_eq_true h2, h3⟩
theorem end_size {ls : List Ln} {ks : List ByteArray} (h : auditB linkT ls ks = true) (h0 : ¬ ks.length = 0) : (sAt ks (ks.length - 1)).size ≤ 32 := by
  obtain ⟨_, h2, h3⟩ := audit_parts h
  have e := last_prev _ h3
  have e2 : lastAt ks ls.length = sAt ks (ks.length - 1) := by unfold lastAt; rw [if_neg (by omega), h2]
  rw [← e2, e]
  exact prev_size _ _
theorem blk2a {w : World} {g : Nat} {a b : Value} {T : TypeId} (h : w.heap[g]? = some (.cells #[a, b] T (0, 0))) : w.cell? ⟨g, 0, none⟩ = some a ∧ w.cell? ⟨g, 1, none⟩ = some b ∧ ∀ o, w.frozen? ⟨g, o, none⟩ = false :=
  ⟨by simp [World.cell?, h], by simp [World.cell?, h], fun o => by simp [World.frozen?, h]⟩
theorem cat1 (a : ByteArray) : (⟨(C2.cat [a]).toArray⟩ : ByteArray) = a := by
  apply ByteArray.ext
  simp [C2.cat]
theorem own1 (w : World) (a : ByteArray) : OT w.heap.size (w.alloc (.cells #[.string a] 9)) (.slice (some ⟨w.heap.size, 0, none⟩) 1 1) [a] :=
  ⟨rfl, .inr ⟨w.heap.size, 1, _, rfl, Nat.le_refl _, heap_alloc_new _ _, Nat.le_refl _, by unfold maxLen; omega, rfl, rfl⟩⟩
theorem rightS (vl vk : Value) (ls : List Ln) (ks : List ByteArray) (w : World) (hv : LRow w vl ls) (hu : SRow w vk ks) (hw : ∀ x ∈ ls, LnW x) :
    Calls Tryd.prog 11 #[.agg #[vl, vk]] w fun e w' => e = .returned (.bool (auditB linkT ls ks)) ∧ Below w.heap.size w w' :=
  A4.audit_spec linkT linkT_size (fun last x vc w hv hx hl hz => A3.link_spec last x vc w hv hx.1 hx.2.1 hx.2.2.1.1 hx.2.2.1.2 hx.2.2.2 hl hz) vl vk ls ks w hv hu hw
end Go.Proofs.YtkpjdmmgdmbmnabDoor.I4
