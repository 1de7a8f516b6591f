/-
  What the draws of stage 5 leave: a secret's number, a text, a signature, in their bounds.
-/
import Derived.Test.YthmlkbgnooahlaaDoorDS
import Derived.Test.YthmlkbgnooahlaaDoorG4
namespace Go.Proofs.YthmlkbgnooahlaaDoor.DT
open Go.RowKit
open Go.Proofs.YthmlkbgnooahlaaDoor.C0 Go.Proofs.YthmlkbgnooahlaaDoor.D0 Go.Proofs.YthmlkbgnooahlaaDoor.HB Go.Proofs.YthmlkbgnooahlaaDoor.DS
open Go.Proofs.YthmlkbgnooahlaaDoor.K3 (bytesOf)
open Go.Proofs.YthmlkbgnooahlaaDoor.G3 (sig)

set_option maxRecDepth 100000 in
theorem secret_draw {B p n : Nat} {v : Value} {w : World} (h : Dr B p n v w) :
    Calls Tryd.prog 29 #[.pointer (some ⟨p, 0, none⟩)] w fun e w' => ∃ z : Int, e = .returned (.int .i64 z) ∧ -1 ≤ z ∧ z ≤ 5003 ∧ Dr B p n v w' ∧ w.grownBy w' (some p) := by
  go_enter Tryd.func29, Tryd.ntmps29
  go_wp2_with fail
  refine (drawOne 15 h (by omega) (by omega)).mono ?_
  rintro e w1 ⟨b, rfl, h1, g1⟩
  cases b with
  | true =>
    go_wp2_with fail
    refine (drawN 4 (h1.alloc _) (by omega) (by omega)).mono ?_
    rintro e w2 ⟨r, rfl, hr, h2, g2⟩
    obtain ⟨z, hz, z1, z2⟩ := lit_get [-1, 0, 5002, 5003] (-1) 5003 (by decide) r (by simp; omega)
    have hcell := (lit_kept g2 h1.lt r).trans hz
    have G := grown_trans g1 (grown_trans (World.grownBy_alloc w1 _ _) g2)
    clear g1 g2 hz
    go_wp2
    go_ret
    exact ⟨z, rfl, z1, z2, h2, G⟩
  | false =>
    go_wp2_with fail
    refine (drawN 5000 h1 (by omega) (by omega)).mono ?_
    rintro e w2 ⟨r, rfl, hr, h2, g2⟩
    go_wp2
    go_ret
    exact ⟨_, rfl, by omega, by omega, h2, grown_trans g1 g2⟩

/-- The texts that may be picked. -/
def texts : List ByteArray := [⟨#[]⟩, ⟨#[112, 97, 121]⟩, ⟨#[112, 97, 121, 32, 109, 111, 114, 101]⟩]
theorem texts_small : ∀ t ∈ texts, t.size ≤ 8 := by
  intro t ht
  simp only [texts, List.mem_cons, List.not_mem_nil, or_false] at ht
  rcases ht with rfl | rfl | rfl
  all_goals decide
set_option maxRecDepth 100000 in
theorem text_draw {B p n : Nat} {v : Value} {w : World} (h : Dr B p n v w) :
    Calls Tryd.prog 28 #[.pointer (some ⟨p, 0, none⟩)] w fun e w' => ∃ t : ByteArray, e = .returned (.string t) ∧ t.size ≤ 8 ∧ Dr B p n v w' ∧ w.grownBy w' (some p) := by
  go_enter Tryd.func28, Tryd.ntmps28
  go_wp2_with fail
  refine (drawOne 3 h (by omega) (by omega)).mono ?_
  rintro e w1 ⟨b, rfl, h1, g1⟩
  cases b with
  | true =>
    go_wp2_with fail
    refine (drawN 9 h1 (by omega) (by omega)).mono ?_
    rintro e w2 ⟨r, rfl, hr, h2, g2⟩
    go_wp2_with fail
    refine (drawBytes r h2 (by omega)).mono ?_
    rintro e w3 ⟨t, rfl, ht, h3, g3⟩
    go_wp2
    go_ret
    exact ⟨t, rfl, by omega, h3, grown_trans (grown_trans g1 g2) g3⟩
  | false =>
    go_wp2_with fail
    refine (pick_any texts 3 w1.heap.size rfl (by omega) (by omega) (h1.alloc _) (heap_alloc_new w1 _) (by have := h1.lt; omega)).mono ?_
    rintro e w2 ⟨t, ht, rfl, h2, g2⟩
    have hts := texts_small t ht
    have G := grown_trans g1 (grown_trans (World.grownBy_alloc w1 _ _) g2)
    clear g1 g2
    go_wp2
    go_ret
    exact ⟨t, rfl, hts, h2, G⟩
end Go.Proofs.YthmlkbgnooahlaaDoor.DT
