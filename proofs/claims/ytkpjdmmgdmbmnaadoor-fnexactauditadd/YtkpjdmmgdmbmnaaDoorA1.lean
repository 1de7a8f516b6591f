/-
  A line of a log, and whether it is right, as the specification says it.
-/
import Derived.Test.YtkpjdmmgdmbmnaaDoorA0
import Derived.Test.YtkpjdmmgdmbmnaaDoorQB
namespace Go.Proofs.YtkpjdmmgdmbmnaaDoor.A1
open Go.RowKit
open Go.Proofs.YtkpjdmmgdmbmnaaDoor.C0 Go.Proofs.YtkpjdmmgdmbmnaaDoor.HB
open Go.Proofs.YtkpjdmmgdmbmnaaDoor.A0
open Go.Proofs.YtkpjdmmgdmbmnaaDoor.C4 (nameB)
structure Ln where
  kind : Int
  name : ByteArray
  sum : ByteArray
  cards : List Int
def lnV (x : Ln) (vc : Value) : Value := .agg #[.int .i64 x.kind, .string x.name, .string x.sum, vc]
def lineB (x : Ln) : Bool := decide (1 ≤ x.kind ∧ x.kind ≤ 5) && ((decide (x.name.size = 0) || nameB x.name) && ((decide (x.sum.size = 0) || decide (x.sum.size = 32)) && cardsB 6 x.cards))
theorem empty_dec (s : ByteArray) : (s.toList == []) = decide (s.size = 0) := by
  have h : s.size = s.data.toList.length := by rw [Array.length_toList]; rfl
  rw [ByteArray.toList_eq, h]
  cases s.data.toList <;> simp
set_option maxRecDepth 100000 in
set_option maxHeartbeats 3200000 in
theorem line_spec (x : Ln) (vc : Value) (w : World) (hv : IRow w vc x.cards) (hn : x.name.size ≤ maxLen) (hs : x.sum.size ≤ maxLen) :
    Calls Tryd.prog 21 #[lnV x vc] w fun e w' => e = .returned (.bool (lineB x)) ∧ Below w.heap.size w w' := by
  obtain ⟨kind, name, sum, cs⟩ := x
  unfold lnV lineB
  dsimp only at hv hn hs ⊢
  have HB : Hid (Below w.heap.size w (w.alloc (.cells #[.int .i64 kind, .string name, .string sum, vc] 29))) := albel w _
  have CK : ∀ W, Calls Tryd.prog 58 #[.int .i64 kind, .int .i64 1, .int .i64 5] W fun e w' => e = .returned (.bool (decide (1 ≤ kind ∧ kind ≤ 5))) ∧ W = w' := fun W => G0.is_spec kind 1 5 W
  have CN : ∀ W, Calls Tryd.prog 59 #[.string name] W fun e w' => e = .returned (.bool (nameB name)) ∧ W = w' := fun W => C4.name_spec name W hn
  have CC : ∀ W, Below w.heap.size w W → Calls Tryd.prog 60 #[vc, .int .i64 6] W fun e w' => e = .returned (.bool (cardsB 6 cs)) ∧ Below W.heap.size W w' := fun W hW => A0.cards_spec 6 vc cs W (hv.below hW)
  have tn := empty_dec name
  have ts := empty_dec sum
  obtain ⟨a, cap, rfl, hl, _⟩ := hv
  unfold maxLen at hn hs
  clear hl
  cases g1 : decide (1 ≤ kind ∧ kind ≤ 5) with
  | false =>
    rw [g1] at CK
    rw [show (false && ((decide (name.size = 0) || nameB name) && ((decide (sum.size = 0) || decide (sum.size = 32)) && cardsB 6 cs))) = false from rfl]
    go_enter Tryd.func21, Tryd.ntmps21
    go_wp2_with fail
    refine (CK _).mono ?_
    rintro e w1 ⟨rfl, rfl⟩
    go_wp2
    go_ret
    exact ⟨rfl, HB.out⟩
  | true =>
    rw [g1] at CK
    cases g2 : decide (name.size = 0) with
    | true =>
      rw [g2] at tn
      cases g3 : decide (sum.size = 0) with
      | true =>
        rw [g3] at ts
        have e2 : (true && ((true || nameB name) && ((true || decide (sum.size = 32)) && cardsB 6 cs))) = cardsB 6 cs := by simp
        rw [e2]
        go_enter Tryd.func21, Tryd.ntmps21
        go_wp2_with fail
        refine (CK _).mono ?_
        rintro e w1 ⟨rfl, rfl⟩
        go_wp2_with fail
        refine (CC _ (albel w _)).mono ?_
        rintro e w3 ⟨rfl, hb⟩
        have HB3 : Hid (Below w.heap.size w w3) := bel2 HB.out hb
        clear hb
        go_wp2
        go_ret
        exact ⟨rfl, HB3.out⟩
      | false =>
        rw [g3] at ts
        by_cases g4 : sum.size = 32
        · have t4 : ((sum.size : Int) == 32) = true := by rw [g4]; rfl
          have e2 : (true && ((true || nameB name) && ((false || decide (sum.size = 32)) && cardsB 6 cs))) = cardsB 6 cs := by simp [g4]
          rw [e2]
          clear g4
          go_enter Tryd.func21, Tryd.ntmps21
          go_wp2_with fail
          refine (CK _).mono ?_
          rintro e w1 ⟨rfl, rfl⟩
          go_wp2_with fail
          refine (CC _ (albel w _)).mono ?_
          rintro e w3 ⟨rfl, hb⟩
          have HB3 : Hid (Below w.heap.size w w3) := bel2 HB.out hb
          clear hb
          go_wp2
          go_ret
          exact ⟨rfl, HB3.out⟩
        · have t4 : ((sum.size : Int) == 32) = false := by simp; omega
          have e2 : (true && ((true || nameB name) && ((false || decide (sum.size = 32)) && cardsB 6 cs))) = false := by simp [g4]
          rw [e2]
          clear g4
          go_enter Tryd.func21, Tryd.ntmps21
          go_wp2_with fail
          refine (CK _).mono ?_
          rintro e w1 ⟨rfl, rfl⟩
          go_wp2
          go_ret
          exact ⟨rfl, HB.out⟩
    | false =>
      rw [g2] at tn
      cases g5 : nameB name with
      | false =>
        rw [g5] at CN
        rw [show (true && ((false || false) && ((decide (sum.size = 0) || decide (sum.size = 32)) && cardsB 6 cs))) = false from rfl]
        go_enter Tryd.func21, Tryd.ntmps21
        go_wp2_with fail
        refine (CK _).mono ?_
        rintro e w1 ⟨rfl, rfl⟩
        go_wp2_with fail
        refine (CN _).mono ?_
        rintro e w2 ⟨rfl, rfl⟩
        go_wp2
        go_ret
        exact ⟨rfl, HB.out⟩
      | true =>
        rw [g5] at CN
        cases g3 : decide (sum.size = 0) with
        | true =>
          rw [g3] at ts
          have e2 : (true && ((false || true) && ((true || decide (sum.size = 32)) && cardsB 6 cs))) = cardsB 6 cs := by simp
          rw [e2]
          go_enter Tryd.func21, Tryd.ntmps21
          go_wp2_with fail
          refine (CK _).mono ?_
          rintro e w1 ⟨rfl, rfl⟩
          go_wp2_with fail
          refine (CN _).mono ?_
          rintro e w2 ⟨rfl, rfl⟩
          go_wp2_with fail
          refine (CC _ (albel w _)).mono ?_
          rintro e w3 ⟨rfl, hb⟩
          have HB3 : Hid (Below w.heap.size w w3) := bel2 HB.out hb
          clear hb
          go_wp2
          go_ret
          exact ⟨rfl, HB3.out⟩
        | false =>
          rw [g3] at ts
          by_cases g4 : sum.size = 32
          · have t4 : ((sum.size : Int) == 32) = true := by rw [g4]; rfl
            have e2 : (true && ((false || true) && ((false || decide (sum.size = 32)) && cardsB 6 cs))) = cardsB 6 cs := by simp [g4]
            rw [e2]
            clear g4
            go_enter Tryd.func21, Tryd.ntmps21
            go_wp2_with fail
            refine (CK _).mono ?_
            rintro e w1 ⟨rfl, rfl⟩
            go_wp2_with fail
            refine (CN _).mono ?_
            rintro e w2 ⟨rfl, rfl⟩
            go_wp2_with fail
            refine (CC _ (albel w _)).mono ?_
            rintro e w3 ⟨rfl, hb⟩
            have HB3 : Hid (Below w.heap.size w w3) := bel2 HB.out hb
            clear hb
            go_wp2
            go_ret
            exact ⟨rfl, HB3.out⟩
          · have t4 : ((sum.size : Int) == 32) = false := by simp; omega
            have e2 : (true && ((false || true) && ((false || decide (sum.size = 32)) && cardsB 6 cs))) = false := by simp [g4]
            rw [e2]
            clear g4
            go_enter Tryd.func21, Tryd.ntmps21
            go_wp2_with fail
            refine (CK _).mono ?_
            rintro e w1 ⟨rfl, rfl⟩
            go_wp2_with fail
            refine (CN _).mono ?_
            rintro e w2 ⟨rfl, rfl⟩
            go_wp2
            go_ret
            exact ⟨rfl, HB.out⟩
end Go.Proofs.YtkpjdmmgdmbmnaaDoor.A1
