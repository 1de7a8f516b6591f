/-
  Rising numbers, and whether a line is right, in the program.
-/
import Derived.Test.YtkpjdmmgdmbmnaaDoorA1
import Derived.Test.YtkpjdmmgdmbmnaaDoorP0
import Derived.Test.YtkpjdmmgdmbmnaaDoorQB
namespace Go.Proofs.YtkpjdmmgdmbmnaaDoor.I0
open Go.RowKit
open Go.Proofs.YtkpjdmmgdmbmnaaDoor.C0 Go.Proofs.YtkpjdmmgdmbmnaaDoor.HB
open Go.Proofs.YtkpjdmmgdmbmnaaDoor.A0 Go.Proofs.YtkpjdmmgdmbmnaaDoor.A1
open Go.Proofs.YtkpjdmmgdmbmnaaDoor.C4 (nameB)
def prevI (l : List Int) (k : Nat) : Int := if k = 0 then 0 else iAt l (k - 1)
theorem prev_succ (l : List Int) (k : Nat) : prevI l (k + 1) = iAt l k := rfl
theorem okUp_one {most : Int} {l : List Int} : ∀ {k i : Nat}, okUp most l k = true → i < k → okAt most l i = true
  | 0, _, _, h => by omega
  | k + 1, i, h, hi => by
    unfold okUp at h
    obtain ⟨h1, h2⟩ := Bool.and_eq_true_iff.1 h
    by_cases e : i = k
    · subst e; exact h2
    · exact okUp_one h1 (by omega)
theorem ok_parts {most : Int} {l : List Int} {i : Nat} (h : okAt most l i = true) : 1 ≤ iAt l i ∧ iAt l i ≤ most ∧ (i = 0 ∨ iAt l (i - 1) < iAt l i) := by
  unfold okAt at h
  obtain ⟨h1, h2⟩ := Bool.and_eq_true_iff.1 h
  have h1 := of_decide_eq_true h1
  refine ⟨h1.1, h1.2, ?_⟩
  rcases Bool.or_eq_true_iff.1 h2 with h3 | h3
  · exact .inl (of_decide_eq_true h3)
  · exact .inr (of_decide_eq_true h3)
theorem up_great {most : Int} {l : List Int} : ∀ {k : Nat}, okUp most l k = true → ∀ i, i < k → (i : Int) + 1 ≤ iAt l i
  | k, h, 0, hi => by have := (ok_parts (okUp_one h hi)).1; omega
  | k, h, i + 1, hi => by
    have h1 := up_great h i (by omega)
    have h2 := (ok_parts (okUp_one h hi)).2.2
    have e : i + 1 - 1 = i := rfl
    rw [e] at h2
    omega
theorem up_cards {most : Int} {l : List Int} (h : okUp most l l.length = true) (hm : 0 ≤ most) : cardsB most l = true := by
  unfold cardsB
  rw [h, Bool.true_and]
  apply decide_eq_true
  by_cases h0 : l.length = 0
  · omega
  · have h1 := up_great h (l.length - 1) (by omega)
    have h2 := (ok_parts (okUp_one h (i := l.length - 1) (by omega))).2.1
    omega
theorem at_no1 {most : Int} {l : List Int} {k : Nat} (h : iAt l k ≤ prevI l k) : okAt most l k = false := by
  cases hb : okAt most l k with
  | false => rfl
  | true =>
    have h1 := ok_parts hb
    unfold prevI at h
    split at h <;> omega
theorem at_no2 {most : Int} {l : List Int} {k : Nat} (h : most < iAt l k) : okAt most l k = false := by
  cases hb : okAt most l k with
  | false => rfl
  | true => have h1 := ok_parts hb; omega
theorem at_yes {most : Int} {l : List Int} {k : Nat} (hu : okUp most l k = true) (h : ¬ iAt l k ≤ prevI l k) (h2 : ¬ most < iAt l k) : okAt most l k = true := by
  unfold okAt
  unfold prevI at h
  by_cases h0 : k = 0
  · subst h0
    rw [if_pos rfl] at h
    simp
    omega
  · rw [if_neg h0] at h
    have h3 := (ok_parts (okUp_one hu (i := k - 1) (by omega))).1
    rw [decide_eq_true (by omega : 1 ≤ iAt l k ∧ iAt l k ≤ most), decide_eq_true (by omega : iAt l (k - 1) < iAt l k)]
    simp
set_option maxRecDepth 100000 in
set_option maxHeartbeats 3200000 in
theorem rise_impl (most : Int) (v : Value) (l : List Int) (w : World) (hv : IRow w v l) (hm : 0 ≤ most) :
    Calls Tryd.prog 57 #[v, .int .i64 most] w fun e w' => e = .returned (.bool (cardsB most l)) ∧ Below w.heap.size w w' := by
  obtain ⟨a, cap, rfl, hl, hc⟩ := hv
  unfold maxLen at hl
  go_enter Tryd.func57, Tryd.ntmps57
  go_wp2_with fail
  go_loopw [5, 10] (fun p i x => ∃ k : Nat, k ≤ l.length ∧ p = .int .i64 (prevI l k) ∧ i = .int .i64 (k : Nat) ∧ okUp most l k = true ∧ Below w.heap.size w x) (fun _ i _ => l.length - (intOf i).toNat)
  case atStart => exact ⟨0, Nat.zero_le _, rfl, rfl, rfl, Below.refl _ _⟩
  case round =>
    obtain ⟨k, hk, rfl, rfl, hok, hbel⟩ := hrel
    by_cases hlt : k < l.length
    · have hlt' : (k : Int) < (l.length : Int) := by omega
      obtain ⟨b, off, rfl, hb, hcc⟩ := hc (by omega)
      have KW : wr.cell? ⟨b, off + k, none⟩ = some (.int .i64 (iAt l k)) := (hbel.cell (p := ⟨b, off + k, none⟩) hb).trans (hcc k _ (iAt_get hlt))
      have HB : Hid (Below w.heap.size w wr) := hbel
      by_cases h1 : iAt l k ≤ prevI l k
      · have HV : Hid (cardsB most l = false) := cards_no hlt (at_no1 h1)
        clear hbel hcc hc hok
        go_wp2
        go_ret
        exact ⟨by rw [HV.out]; rfl, HB.out⟩
      · by_cases h2 : most < iAt l k
        · have HV : Hid (cardsB most l = false) := cards_no hlt (at_no2 h2)
          clear hbel hcc hc hok
          go_wp2
          go_ret
          exact ⟨by rw [HV.out]; rfl, HB.out⟩
        · have HU : Hid (okUp most l (k + 1) = true) := okUp_yes hok (at_yes hok h1 h2)
          clear hbel hcc hc hok
          go_wp2
          go_roundw
          case rel => exact ⟨k + 1, by omega, rfl, by go_num, HU.out, HB.out⟩
          case measure => simp [intOf]; omega
    · obtain rfl : k = l.length := by omega
      have HV : Hid (cardsB most l = true) := up_cards hok hm
      clear hok hc
      go_wp2
      go_ret
      exact ⟨by rw [HV.out]; rfl, hbel⟩
set_option maxRecDepth 100000 in
set_option maxHeartbeats 6400000 in
theorem line_impl (x : Ln) (vc : Value) (w : World) (hv : IRow w vc x.cards) (hn : x.name.size ≤ maxLen) (hs : x.sum.size ≤ maxLen) :
    Calls Tryd.prog 20 #[lnV x vc] w fun e w' => e = .returned (.bool (lineB x)) ∧ Below w.heap.size w w' := by
  obtain ⟨kind, name, sum, cs⟩ := x
  unfold lnV lineB
  dsimp only at hv hn hs ⊢
  have HB : Hid (Below w.heap.size w (w.alloc (.cells #[.int .i64 kind, .string name, .string sum, vc] 29))) := albel w _
  have CK : ∀ W, Calls Tryd.prog 56 #[.int .i64 1, .int .i64 kind, .int .i64 5] W fun e w' => e = .returned (.bool (decide (1 ≤ kind ∧ kind ≤ 5))) ∧ W = w' := fun W => P0.from_impl 1 kind 5 W
  have CN : ∀ W, Calls Tryd.prog 55 #[.string name] W fun e w' => e = .returned (.bool (nameB name)) ∧ W = w' := fun W => C4.name_impl name W hn
  have CC : ∀ W, Below w.heap.size w W → Calls Tryd.prog 57 #[vc, .int .i64 6] W fun e w' => e = .returned (.bool (cardsB 6 cs)) ∧ Below W.heap.size W w' := fun W hW => rise_impl 6 vc cs W (hv.below hW) (by decide)
  have tn := empty_dec name
  have ts := empty_dec sum
  obtain ⟨a, cap, rfl, hl, _⟩ := hv
  unfold maxLen at hn hs
  clear hl
  cases g1 : decide (1 ≤ kind ∧ kind ≤ 5) with
  | false =>
    rw [g1] at CK
    cases g2 : decide (name.size = 0) with
    | true =>
      rw [g2] at tn
      cases g3 : decide (sum.size = 0) with
      | true =>
        rw [g3] at ts
        have e2 : (false && ((true || nameB name) && ((true || decide (sum.size = 32)) && cardsB 6 cs))) = false := by simp
        rw [e2]
        go_enter Tryd.func20, Tryd.ntmps20
        go_wp2_with fail
        refine (CK _).mono ?_
        rintro e w1 ⟨rfl, rfl⟩
        go_wp2
        go_ret
        exact ⟨rfl, HB.out⟩
      | false =>
        rw [g3] at ts
        by_cases g4 : sum.size = 32
        · have t4 : ((sum.size : Int) == 32) = true := by rw [g4]; rfl
          have e2 : (false && ((true || nameB name) && ((false || decide (sum.size = 32)) && cardsB 6 cs))) = false := by simp [g4]
          rw [e2]
          clear g4
          go_enter Tryd.func20, Tryd.ntmps20
          go_wp2_with fail
          refine (CK _).mono ?_
          rintro e w1 ⟨rfl, rfl⟩
          go_wp2
          go_ret
          exact ⟨rfl, HB.out⟩
        · have t4 : ((sum.size : Int) == 32) = false := by simp; omega
          have e2 : (false && ((true || nameB name) && ((false || decide (sum.size = 32)) && cardsB 6 cs))) = false := by simp [g4]
          rw [e2]
          clear g4
          go_enter Tryd.func20, Tryd.ntmps20
          go_wp2_with fail
          refine (CK _).mono ?_
          rintro e w1 ⟨rfl, rfl⟩
          go_wp2
          go_ret
          exact ⟨rfl, HB.out⟩
    | false =>
      rw [g2] at tn
      cases g5 : nameB name with
      | false =>
        rw [g5] at CN
        cases g3 : decide (sum.size = 0) with
        | true =>
          rw [g3] at ts
          have e2 : (false && ((false || false) && ((true || decide (sum.size = 32)) && cardsB 6 cs))) = false := by simp
          rw [e2]
          go_enter Tryd.func20, Tryd.ntmps20
          go_wp2_with fail
          refine (CN _).mono ?_
          rintro e w2 ⟨rfl, rfl⟩
          go_wp2_with fail
          refine (CK _).mono ?_
          rintro e w1 ⟨rfl, rfl⟩
          go_wp2
          go_ret
          exact ⟨rfl, HB.out⟩
        | false =>
          rw [g3] at ts
          by_cases g4 : sum.size = 32
          · have t4 : ((sum.size : Int) == 32) = true := by rw [g4]; rfl
            have e2 : (false && ((false || false) && ((false || decide (sum.size = 32)) && cardsB 6 cs))) = false := by simp [g4]
            rw [e2]
            clear g4
            go_enter Tryd.func20, Tryd.ntmps20
            go_wp2_with fail
            refine (CN _).mono ?_
            rintro e w2 ⟨rfl, rfl⟩
            go_wp2_with fail
            refine (CK _).mono ?_
            rintro e w1 ⟨rfl, rfl⟩
            go_wp2
            go_ret
            exact ⟨rfl, HB.out⟩
          · have t4 : ((sum.size : Int) == 32) = false := by simp; omega
            have e2 : (false && ((false || false) && ((false || decide (sum.size = 32)) && cardsB 6 cs))) = false := by simp [g4]
            rw [e2]
            clear g4
            go_enter Tryd.func20, Tryd.ntmps20
            go_wp2_with fail
            refine (CN _).mono ?_
            rintro e w2 ⟨rfl, rfl⟩
            go_wp2_with fail
            refine (CK _).mono ?_
            rintro e w1 ⟨rfl, rfl⟩
            go_wp2
            go_ret
            exact ⟨rfl, HB.out⟩
      | true =>
        rw [g5] at CN
        cases g3 : decide (sum.size = 0) with
        | true =>
          rw [g3] at ts
          have e2 : (false && ((false || true) && ((true || decide (sum.size = 32)) && cardsB 6 cs))) = false := by simp
          rw [e2]
          go_enter Tryd.func20, Tryd.ntmps20
          go_wp2_with fail
          refine (CN _).mono ?_
          rintro e w2 ⟨rfl, rfl⟩
          go_wp2_with fail
          refine (CK _).mono ?_
          rintro e w1 ⟨rfl, rfl⟩
          go_wp2
          go_ret
          exact ⟨rfl, HB.out⟩
        | false =>
          rw [g3] at ts
          by_cases g4 : sum.size = 32
          · have t4 : ((sum.size : Int) == 32) = true := by rw [g4]; rfl
            have e2 : (false && ((false || true) && ((false || decide (sum.size = 32)) && cardsB 6 cs))) = false := by simp [g4]
            rw [e2]
            clear g4
            go_enter Tryd.func20, Tryd.ntmps20
            go_wp2_with fail
            refine (CN _).mono ?_
            rintro e w2 ⟨rfl, rfl⟩
            go_wp2_with fail
            refine (CK _).mono ?_
            rintro e w1 ⟨rfl, rfl⟩
            go_wp2
            go_ret
            exact ⟨rfl, HB.out⟩
          · have t4 : ((sum.size : Int) == 32) = false := by simp; omega
            have e2 : (false && ((false || true) && ((false || decide (sum.size = 32)) && cardsB 6 cs))) = false := by simp [g4]
            rw [e2]
            clear g4
            go_enter Tryd.func20, Tryd.ntmps20
            go_wp2_with fail
            refine (CN _).mono ?_
            rintro e w2 ⟨rfl, rfl⟩
            go_wp2_with fail
            refine (CK _).mono ?_
            rintro e w1 ⟨rfl, rfl⟩
            go_wp2
            go_ret
            exact ⟨rfl, HB.out⟩
  | true =>
    rw [g1] at CK
    cases g2 : decide (name.size = 0) with
    | true =>
      rw [g2] at tn
      cases g3 : decide (sum.size = 0) with
      | true =>
        rw [g3] at ts
        have e2 : (true && ((true || nameB name) && ((true || decide (sum.size = 32)) && cardsB 6 cs))) = cardsB 6 cs := by simp
        rw [e2]
        go_enter Tryd.func20, Tryd.ntmps20
        go_wp2_with fail
        refine (CK _).mono ?_
        rintro e w1 ⟨rfl, rfl⟩
        go_wp2_with fail
        refine (CC _ HB.out).mono ?_
        rintro e w3 ⟨rfl, hb⟩
        have HB3 : Hid (Below w.heap.size w w3) := bel2 HB.out hb
        clear hb
        go_wp2
        go_ret
        exact ⟨rfl, HB3.out⟩
      | false =>
        rw [g3] at ts
        by_cases g4 : sum.size = 32
        · have t4 : ((sum.size : Int) == 32) = true := by rw [g4]; rfl
          have e2 : (true && ((true || nameB name) && ((false || decide (sum.size = 32)) && cardsB 6 cs))) = cardsB 6 cs := by simp [g4]
          rw [e2]
          clear g4
          go_enter Tryd.func20, Tryd.ntmps20
          go_wp2_with fail
          refine (CK _).mono ?_
          rintro e w1 ⟨rfl, rfl⟩
          go_wp2_with fail
          refine (CC _ HB.out).mono ?_
          rintro e w3 ⟨rfl, hb⟩
          have HB3 : Hid (Below w.heap.size w w3) := bel2 HB.out hb
          clear hb
          go_wp2
          go_ret
          exact ⟨rfl, HB3.out⟩
        · have t4 : ((sum.size : Int) == 32) = false := by simp; omega
          have e2 : (true && ((true || nameB name) && ((false || decide (sum.size = 32)) && cardsB 6 cs))) = false := by simp [g4]
          rw [e2]
          clear g4
          go_enter Tryd.func20, Tryd.ntmps20
          go_wp2_with fail
          refine (CK _).mono ?_
          rintro e w1 ⟨rfl, rfl⟩
          go_wp2
          go_ret
          exact ⟨rfl, HB.out⟩
    | false =>
      rw [g2] at tn
      cases g5 : nameB name with
      | false =>
        rw [g5] at CN
        cases g3 : decide (sum.size = 0) with
        | true =>
          rw [g3] at ts
          have e2 : (true && ((false || false) && ((true || decide (sum.size = 32)) && cardsB 6 cs))) = false := by simp
          rw [e2]
          go_enter Tryd.func20, Tryd.ntmps20
          go_wp2_with fail
          refine (CN _).mono ?_
          rintro e w2 ⟨rfl, rfl⟩
          go_wp2_with fail
          refine (CK _).mono ?_
          rintro e w1 ⟨rfl, rfl⟩
          go_wp2
          go_ret
          exact ⟨rfl, HB.out⟩
        | false =>
          rw [g3] at ts
          by_cases g4 : sum.size = 32
          · have t4 : ((sum.size : Int) == 32) = true := by rw [g4]; rfl
            have e2 : (true && ((false || false) && ((false || decide (sum.size = 32)) && cardsB 6 cs))) = false := by simp [g4]
            rw [e2]
            clear g4
            go_enter Tryd.func20, Tryd.ntmps20
            go_wp2_with fail
            refine (CN _).mono ?_
            rintro e w2 ⟨rfl, rfl⟩
            go_wp2_with fail
            refine (CK _).mono ?_
            rintro e w1 ⟨rfl, rfl⟩
            go_wp2
            go_ret
            exact ⟨rfl, HB.out⟩
          · have t4 : ((sum.size : Int) == 32) = false := by simp; omega
            have e2 : (true && ((false || false) && ((false || decide (sum.size = 32)) && cardsB 6 cs))) = false := by simp [g4]
            rw [e2]
            clear g4
            go_enter Tryd.func20, Tryd.ntmps20
            go_wp2_with fail
            refine (CN _).mono ?_
            rintro e w2 ⟨rfl, rfl⟩
            go_wp2_with fail
            refine (CK _).mono ?_
            rintro e w1 ⟨rfl, rfl⟩
            go_wp2
            go_ret
            exact ⟨rfl, HB.out⟩
      | true =>
        rw [g5] at CN
        cases g3 : decide (sum.size = 0) with
        | true =>
          rw [g3] at ts
          have e2 : (true && ((false || true) && ((true || decide (sum.size = 32)) && cardsB 6 cs))) = cardsB 6 cs := by simp
          rw [e2]
          go_enter Tryd.func20, Tryd.ntmps20
          go_wp2_with fail
          refine (CN _).mono ?_
          rintro e w2 ⟨rfl, rfl⟩
          go_wp2_with fail
          refine (CK _).mono ?_
          rintro e w1 ⟨rfl, rfl⟩
          go_wp2_with fail
          refine (CC _ HB.out).mono ?_
          rintro e w3 ⟨rfl, hb⟩
          have HB3 : Hid (Below w.heap.size w w3) := bel2 HB.out hb
          clear hb
          go_wp2
          go_ret
          exact ⟨rfl, HB3.out⟩
        | false =>
          rw [g3] at ts
          by_cases g4 : sum.size = 32
          · have t4 : ((sum.size : Int) == 32) = true := by rw [g4]; rfl
            have e2 : (true && ((false || true) && ((false || decide (sum.size = 32)) && cardsB 6 cs))) = cardsB 6 cs := by simp [g4]
            rw [e2]
            clear g4
            go_enter Tryd.func20, Tryd.ntmps20
            go_wp2_with fail
            refine (CN _).mono ?_
            rintro e w2 ⟨rfl, rfl⟩
            go_wp2_with fail
            refine (CK _).mono ?_
            rintro e w1 ⟨rfl, rfl⟩
            go_wp2_with fail
            refine (CC _ HB.out).mono ?_
            rintro e w3 ⟨rfl, hb⟩
            have HB3 : Hid (Below w.heap.size w w3) := bel2 HB.out hb
            clear hb
            go_wp2
            go_ret
            exact ⟨rfl, HB3.out⟩
          · have t4 : ((sum.size : Int) == 32) = false := by simp; omega
            have e2 : (true && ((false || true) && ((false || decide (sum.size = 32)) && cardsB 6 cs))) = false := by simp [g4]
            rw [e2]
            clear g4
            go_enter Tryd.func20, Tryd.ntmps20
            go_wp2_with fail
            refine (CN _).mono ?_
            rintro e w2 ⟨rfl, rfl⟩
            go_wp2_with fail
            refine (CK _).mono ?_
            rintro e w1 ⟨rfl, rfl⟩
            go_wp2
            go_ret
            exact ⟨rfl, HB.out⟩
end Go.Proofs.YtkpjdmmgdmbmnaaDoor.I0
