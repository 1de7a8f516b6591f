/-
  New cards, and numbers told to them, in the specification.
-/
import Derived.Test.YteehgicnfageiaaDoorN2
import Derived.Test.YteehgicnfageiaaDoorP1
import Derived.Test.YteehgicnfageiaaDoorQC
import Derived.Deep.RegionHeld3
namespace Go.Proofs.YteehgicnfageiaaDoor.P2
open Go.RowKit
open Go.Proofs.YteehgicnfageiaaDoor.C0 Go.Proofs.YteehgicnfageiaaDoor.HB
open Go.Proofs.YteehgicnfageiaaDoor.J1 (shareR yes2 no2)
open Go.Proofs.YteehgicnfageiaaDoor.N0 (Cd cdV cardB pinB)
open Go.Proofs.YteehgicnfageiaaDoor.N2 (numT numT_size)
open Go.Proofs.YteehgicnfageiaaDoor.P1 (CO coV ill coV_ill)
open Go.Proofs.YteehgicnfageiaaDoor.K3 (bytesOf)

/-- What a card knows of a number. -/
def macOf (id : Int) (pin : ByteArray) : ByteArray := ⟨(Ms.mac (bytesOf (numT id)) (bytesOf pin)).toArray⟩
theorem macOf_size (id : Int) (pin : ByteArray) : (macOf id pin).size = 32 := by
  unfold macOf; rw [KA.size_mk, KA.mac_macS]; unfold KA.macS; exact Ms.digest_length _
/-- Two texts, held against one another. -/
def same (a b : ByteArray) : Bool := a.toList == b.toList
theorem same_eq {a b : ByteArray} : same a b = true ↔ a = b := by
  unfold same
  rw [beq_iff_eq, ByteArray.toList_eq, ByteArray.toList_eq]
  constructor
  · intro h; apply ByteArray.ext; exact Array.ext' h
  · intro h; rw [h]
theorem pinB_le {s : ByteArray} (h : pinB s = true) : s.size ≤ 8 := by
  unfold pinB at h
  obtain ⟨_, h⟩ := Bool.and_eq_true_iff.1 h
  obtain ⟨h, _⟩ := Bool.and_eq_true_iff.1 h
  exact of_decide_eq_true h

def newOk (id ep : Int) (pin : ByteArray) (ix : Int) (dt : ByteArray) : Bool := decide (1 ≤ id ∧ id ≤ 6) && (decide (0 ≤ ep ∧ ep ≤ 1000000) && (pinB pin && shareR ix dt))
def newR (id ep : Int) (pin : ByteArray) (ix : Int) (dt : ByteArray) : CO :=
  if 8000 < pin.size then ill 2 else if newOk id ep pin ix dt = true then ⟨⟨id, ep, macOf id pin, 3, ix, dt⟩, ⟨#[]⟩, 0⟩ else ill 1
def tryP (c : Cd) (pin : ByteArray) : CO :=
  if c.tr = 0 then ill 12 else if same c.pin (macOf c.id pin) = true then ⟨⟨c.id, c.ep, c.pin, 3, c.ix, c.dt⟩, c.dt, 0⟩ else ⟨⟨c.id, c.ep, c.pin, c.tr - 1, c.ix, c.dt⟩, ⟨#[]⟩, 11⟩
def tryR (c : Cd) (pin : ByteArray) : CO :=
  if 8000 < pin.size then ill 2 else if (cardB c && pinB pin) = true then tryP c pin else ill 1
def pinned (c : Cd) (old pin : ByteArray) : CO := if (tryP c old).k = 0 then ⟨⟨c.id, c.ep, macOf c.id pin, 3, c.ix, c.dt⟩, ⟨#[]⟩, 0⟩ else tryP c old
def cpR (c : Cd) (old pin : ByteArray) : CO :=
  if 8000 < old.size ∨ 8000 < pin.size then ill 2 else if (cardB c && (pinB old && pinB pin)) = true then pinned c old pin else ill 1

theorem cardB_parts {c : Cd} (h : cardB c = true) : (1 ≤ c.id ∧ c.id ≤ 6) ∧ (0 ≤ c.ep ∧ c.ep ≤ 1000000) ∧ c.pin.size = 32 ∧ (0 ≤ c.tr ∧ c.tr ≤ 3) ∧ shareR c.ix c.dt = true := by
  unfold cardB at h
  obtain ⟨h1, h⟩ := Bool.and_eq_true_iff.1 h
  obtain ⟨h2, h⟩ := Bool.and_eq_true_iff.1 h
  obtain ⟨h3, h⟩ := Bool.and_eq_true_iff.1 h
  obtain ⟨h4, h⟩ := Bool.and_eq_true_iff.1 h
  exact ⟨of_decide_eq_true h1, of_decide_eq_true h2, of_decide_eq_true h3, of_decide_eq_true h4, h⟩
theorem cardB_mk {c : Cd} (h1 : 1 ≤ c.id ∧ c.id ≤ 6) (h2 : 0 ≤ c.ep ∧ c.ep ≤ 1000000) (h3 : c.pin.size = 32) (h4 : 0 ≤ c.tr ∧ c.tr ≤ 3) (h5 : shareR c.ix c.dt = true) : cardB c = true := by
  unfold cardB; rw [decide_eq_true h1, decide_eq_true h2, decide_eq_true h3, decide_eq_true h4, h5]; rfl

theorem ill_spec (k : Int) (w : World) : Calls Tryd.prog 60 #[.int .i64 k] w fun e w' => e = .returned (coV (ill k)) ∧ Below w.heap.size w w' := by
  rw [coV_ill]
  go_enter Tryd.func60, Tryd.ntmps60
  go_wp2
  exact bodyPost_ret (v := .agg #[.int .i64 0, .int .i64 0, .string ⟨#[]⟩, .int .i64 0, .int .i64 0, .string ⟨#[]⟩, .string ⟨#[]⟩, .int .i64 k]) (by simp [results, Tryd.results60, go_sem]) rfl ⟨rfl, (Below.refl _ _).alloc (Nat.le_refl _) _⟩
theorem pin_spec (id : Int) (pin : ByteArray) (w : World) (h1 : -9223372036854775808 ≤ id) (h2 : id ≤ 9223372036854775807) (hp : pin.size ≤ 8000) :
    Calls Tryd.prog 62 #[.int .i64 id, .string pin] w fun e w' => e = .returned (.string (macOf id pin)) ∧ Below w.heap.size w w' := by
  have hn := numT_size id
  have HP : Hid (∀ W, Calls Tryd.prog 66 #[.int .i64 id] W fun e w' => e = .returned (.string (numT id)) ∧ Below W.heap.size W w') := fun W => C1.put_spec id W h1 h2
  have HM : Hid (∀ W, Calls Tryd.prog 80 #[.string (numT id), .string pin] W fun e w' => e = .returned (.string (macOf id pin)) ∧ Below W.heap.size W w') := fun W => KA.mac_spec (numT id) pin W (by omega) hp
  generalize numT id = p at *
  generalize macOf id pin = m at *
  clear hn h1 h2 hp
  go_enter Tryd.func62, Tryd.ntmps62
  go_wp2_with fail
  refine (HP.out _).mono ?_
  rintro e w1 ⟨rfl, hb1⟩
  go_wp2_with fail
  refine (HM.out _).mono ?_
  rintro e w2 ⟨rfl, hb2⟩
  go_wp2
  go_ret
  exact ⟨rfl, bel2 hb1 hb2⟩
/-- Blocks of six and of eight cells, read. -/
theorem blk6 {w : World} {g : Nat} {a b c d e f : Value} {T : TypeId} (h : w.heap[g]? = some (.cells #[a, b, c, d, e, f] T (0, 0))) : w.cell? ⟨g, 0, none⟩ = some a ∧ w.cell? ⟨g, 1, none⟩ = some b ∧ w.cell? ⟨g, 2, none⟩ = some c ∧ w.cell? ⟨g, 3, none⟩ = some d ∧ w.cell? ⟨g, 4, none⟩ = some e ∧ w.cell? ⟨g, 5, none⟩ = some f ∧ (∀ o, w.frozen? ⟨g, o, none⟩ = false) :=
  ⟨by simp [World.cell?, h], by simp [World.cell?, h], by simp [World.cell?, h], by simp [World.cell?, h], by simp [World.cell?, h], by simp [World.cell?, h], fun o => by simp [World.frozen?, h]⟩
theorem blk8 {w : World} {g : Nat} {a b c d e f k l : Value} {T : TypeId} (h : w.heap[g]? = some (.cells #[a, b, c, d, e, f, k, l] T (0, 0))) : w.cell? ⟨g, 0, none⟩ = some a ∧ w.cell? ⟨g, 1, none⟩ = some b ∧ w.cell? ⟨g, 2, none⟩ = some c ∧ w.cell? ⟨g, 3, none⟩ = some d ∧ w.cell? ⟨g, 4, none⟩ = some e ∧ w.cell? ⟨g, 5, none⟩ = some f ∧ w.cell? ⟨g, 6, none⟩ = some k ∧ w.cell? ⟨g, 7, none⟩ = some l ∧ (∀ o, w.frozen? ⟨g, o, none⟩ = false) :=
  ⟨by simp [World.cell?, h], by simp [World.cell?, h], by simp [World.cell?, h], by simp [World.cell?, h], by simp [World.cell?, h], by simp [World.cell?, h], by simp [World.cell?, h], by simp [World.cell?, h], fun o => by simp [World.frozen?, h]⟩
theorem blk2c {w : World} {g : Nat} {a b : Value} {T : TypeId} (h : w.heap[g]? = some (.cells #[a, b] T (0, 0))) : w.cell? ⟨g, 0, none⟩ = some a ∧ w.cell? ⟨g, 1, none⟩ = some b :=
  ⟨by simp [World.cell?, h], by simp [World.cell?, h]⟩
/-- An answer written over an answer's block of one's own. -/
theorem set8 {w w1 : World} {B : Nat} (h : Below w.heap.size w w1) (hB : w.heap.size ≤ B) (a b c d e f k l : Value) :
    Below w.heap.size w ((((((((w1.setCell ⟨B, 0, none⟩ a).setCell ⟨B, 1, none⟩ b).setCell ⟨B, 2, none⟩ c).setCell ⟨B, 3, none⟩ d).setCell ⟨B, 4, none⟩ e).setCell ⟨B, 5, none⟩ f).setCell ⟨B, 6, none⟩ k).setCell ⟨B, 7, none⟩ l) :=
  (((((((h.setCell hB _).setCell hB _).setCell hB _).setCell hB _).setCell hB _).setCell hB _).setCell hB _).setCell hB _
/-- Two new blocks, read behind whatever leaves them as they were. -/
theorem two_new (w : World) (A R : Obj) : ((w.alloc A).alloc R).heap[w.heap.size]? = some A ∧ ((w.alloc A).alloc R).heap[w.heap.size + 1]? = some R ∧ Below w.heap.size w ((w.alloc A).alloc R) :=
  ⟨carryA (heap_alloc_new w A) R, by have := heap_alloc_new (w.alloc A) R; rwa [asz] at this, ((Below.refl _ _).alloc (Nat.le_refl _) _).alloc (by simp) _⟩
end Go.Proofs.YteehgicnfageiaaDoor.P2
