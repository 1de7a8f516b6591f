/-
  The link behind another one, in the specification.
-/
import Derived.Test.YtkpjdmmgdmbmnaaDoorA2
import Derived.Test.YtkpjdmmgdmbmnaaDoorQC
namespace Go.Proofs.YtkpjdmmgdmbmnaaDoor.A3
open Go.RowKit
open Go.Proofs.YtkpjdmmgdmbmnaaDoor.C0 Go.Proofs.YtkpjdmmgdmbmnaaDoor.HB
open Go.Proofs.YtkpjdmmgdmbmnaaDoor.A0 Go.Proofs.YtkpjdmmgdmbmnaaDoor.A1 Go.Proofs.YtkpjdmmgdmbmnaaDoor.A2
open Go.Proofs.YtkpjdmmgdmbmnaaDoor.K3 (bytesOf)
def linkT (last : ByteArray) (x : Ln) : ByteArray := ⟨(Ms.digest (bytesOf (last ++ lineT x))).toArray⟩
set_option maxRecDepth 100000 in
set_option maxHeartbeats 1600000 in
theorem link_spec (last : ByteArray) (x : Ln) (vc : Value) (w : World) (hv : IRow w vc x.cards) (hn : x.name.size ≤ maxLen) (hs : x.sum.size ≤ maxLen) (hk1 : -9223372036854775808 ≤ x.kind) (hk2 : x.kind ≤ 9223372036854775807)
    (hcs : ∀ c ∈ x.cards, -9223372036854775808 ≤ c ∧ c ≤ 9223372036854775807) (hl : x.cards.length ≤ 100000) (hz : (last ++ lineT x).size ≤ 20000) :
    Calls Tryd.prog 62 #[.string last, lnV x vc] w fun e w' => e = .returned (.string (linkT last x)) ∧ Below w.heap.size w w' := by
  have HT : Hid (∀ W, Below w.heap.size w W → Calls Tryd.prog 51 #[lnV x vc] W fun e w' => e = .returned (.string (lineT x)) ∧ Below W.heap.size W w') := fun W hW => text_spec x vc W (hv.below hW) hn hs hk1 hk2 hcs hl
  have HA : Hid (∀ W, Calls Tryd.prog 53 #[.string (last ++ lineT x)] W fun e w' => e = .returned (.string (linkT last x)) ∧ Below W.heap.size W w') := fun W => K8.all_spec _ W hz
  have B0 : Hid (Below w.heap.size w (w.alloc (.cells #[.int .i64 x.kind, .string x.name, .string x.sum, vc] 29))) := albel w _
  have k0 := heap_alloc_new w (.cells #[.int .i64 x.kind, .string x.name, .string x.sum, vc] 29)
  obtain ⟨a, cap, rfl, _, _⟩ := hv
  have ha : last.size + (lineT x).size ≤ 9223372036854775807 := by rw [ByteArray.size_append] at hz; omega
  unfold lnV at HT ⊢
  obtain ⟨kind, name, sum, cs⟩ := x
  dsimp only at *
  generalize lineT ⟨kind, name, sum, cs⟩ = t at *
  generalize linkT last ⟨kind, name, sum, cs⟩ = r at *
  clear hn hs hk1 hk2 hcs hl hz
  go_enter Tryd.func62, Tryd.ntmps62
  go_wp2_with fail
  refine (HT.out _ B0.out).mono ?_
  rintro e w1 ⟨rfl, hb⟩
  have B1 : Hid (Below w.heap.size w w1) := bel2 B0.out hb
  clear hb k0
  go_wp2_with fail
  refine (HA.out _).mono ?_
  rintro e w2 ⟨rfl, hb⟩
  have B2 : Hid (Below w.heap.size w w2) := bel2 B1.out hb
  clear hb
  go_wp2
  go_ret
  exact ⟨rfl, B2.out⟩
end Go.Proofs.YtkpjdmmgdmbmnaaDoor.A3
