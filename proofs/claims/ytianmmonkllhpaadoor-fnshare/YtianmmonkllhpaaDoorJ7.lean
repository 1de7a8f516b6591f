/-
  What is split of whatever arguments, in the specification.
-/
import Derived.Test.YtianmmonkllhpaaDoorJ6
namespace Go.Proofs.YtianmmonkllhpaaDoor.J7
open Go.RowKit
open Go.Proofs.YtianmmonkllhpaaDoor.C0 Go.Proofs.YtianmmonkllhpaaDoor.HB Go.Proofs.YtianmmonkllhpaaDoor.NU Go.Proofs.YtianmmonkllhpaaDoor.ST
open Go.Proofs.YtianmmonkllhpaaDoor.SH (Sh Shares OShares Wrote cp)
open Go.Proofs.YtianmmonkllhpaaDoor.J1 (yes2 no2)

def secOk (s : ByteArray) : Bool := decide (1 ≤ s.size ∧ s.size ≤ 16)
def salOk (s : ByteArray) : Bool := decide (1 ≤ s.size ∧ s.size ≤ 64)
set_option maxRecDepth 100000 in
theorem sec_spec (s : ByteArray) (w : World) (hs : s.size ≤ maxLen) :
    Calls Tryd.prog 38 #[.string s] w fun e w' => e = .returned (.bool (secOk s)) ∧ w = w' := by
  unfold maxLen at hs
  by_cases h1 : 1 ≤ s.size
  · have d1 : decide ((1 : Int) ≤ (s.size : Int)) = true := decide_eq_true (by omega)
    by_cases h2 : s.size ≤ 16
    · have d2 : decide ((s.size : Int) ≤ 16) = true := decide_eq_true (by omega)
      rw [show secOk s = true from decide_eq_true ⟨h1, h2⟩]
      go_enter Tryd.func38, Tryd.ntmps38
      go_wp2
      go_ret
      exact ⟨rfl, rfl⟩
    · have d2 : decide ((s.size : Int) ≤ 16) = false := decide_eq_false (by omega)
      rw [show secOk s = false from decide_eq_false (fun h => h2 h.2)]
      go_enter Tryd.func38, Tryd.ntmps38
      go_wp2
      go_ret
      exact ⟨rfl, rfl⟩
  · have d1 : decide ((1 : Int) ≤ (s.size : Int)) = false := decide_eq_false (by omega)
    rw [show secOk s = false from decide_eq_false (fun h => h1 h.1)]
    go_enter Tryd.func38, Tryd.ntmps38
    go_wp2
    go_ret
    exact ⟨rfl, rfl⟩
set_option maxRecDepth 100000 in
theorem sal_spec (s : ByteArray) (w : World) (hs : s.size ≤ maxLen) :
    Calls Tryd.prog 40 #[.string s] w fun e w' => e = .returned (.bool (salOk s)) ∧ w = w' := by
  unfold maxLen at hs
  by_cases h1 : 1 ≤ s.size
  · have d1 : decide ((1 : Int) ≤ (s.size : Int)) = true := decide_eq_true (by omega)
    by_cases h2 : s.size ≤ 64
    · have d2 : decide ((s.size : Int) ≤ 64) = true := decide_eq_true (by omega)
      rw [show salOk s = true from decide_eq_true ⟨h1, h2⟩]
      go_enter Tryd.func40, Tryd.ntmps40
      go_wp2
      go_ret
      exact ⟨rfl, rfl⟩
    · have d2 : decide ((s.size : Int) ≤ 64) = false := decide_eq_false (by omega)
      rw [show salOk s = false from decide_eq_false (fun h => h2 h.2)]
      go_enter Tryd.func40, Tryd.ntmps40
      go_wp2
      go_ret
      exact ⟨rfl, rfl⟩
  · have d1 : decide ((1 : Int) ≤ (s.size : Int)) = false := decide_eq_false (by omega)
    rw [show salOk s = false from decide_eq_false (fun h => h1 h.1)]
    go_enter Tryd.func40, Tryd.ntmps40
    go_wp2
    go_ret
    exact ⟨rfl, rfl⟩
/-- What is answered: shares of the call's own. -/
def Told (w : World) (l : List Sh) (e : Ending) (w' : World) : Prop := ∃ a cap, e = .returned (.slice a l.length cap) ∧ OShares w.heap.size w' (.slice a l.length cap) l ∧ Below w.heap.size w w'
theorem Told.none (w : World) : Told w [] (.returned (.slice (some ⟨w.heap.size, 0, none⟩) 0 0)) (w.alloc (.cells #[] 33)) :=
  ⟨_, 0, rfl, World.ownsRow_lit w #[] 0 (Nat.le_refl _) (by decide) rfl, albel _ _⟩
theorem splitR_no {secret salt : ByteArray} {need cards : Int} (h : splitOk secret need cards salt = false) : splitR secret need cards salt = [] := by unfold splitR; rw [h]; rfl
set_option maxRecDepth 100000 in
set_option maxHeartbeats 1600000 in
theorem split_any (secret salt : ByteArray) (need cards : Int) (w : World) (hs : secret.size ≤ maxLen) (ha : salt.size ≤ maxLen) :
    Calls Tryd.prog 12 #[.string secret, .int .i64 need, .int .i64 cards, .string salt] w fun e w' => Told w (splitR secret need cards salt) e w' := by
  have hs0 := hs
  have ha0 := ha
  unfold maxLen at hs ha
  have HD : Hid (splitOk secret need cards salt = (secOk secret && (decide (1 ≤ cards ∧ cards ≤ 6) && (decide (1 ≤ need ∧ need ≤ cards) && salOk salt)))) := rfl
  by_cases a8 : secret.size ≤ 8000
  · have d8 : decide ((8000 : Int) < (secret.size : Int)) = false := decide_eq_false (by omega)
    by_cases b8 : salt.size ≤ 8000
    · have e8 : decide ((8000 : Int) < (salt.size : Int)) = false := decide_eq_false (by omega)
      cases hsec : secOk secret with
      | false =>
        have HE : Hid (splitR secret need cards salt = []) := splitR_no (by rw [HD.out, hsec]; rfl)
        rw [HE.out]
        go_enter Tryd.func12, Tryd.ntmps12
        go_wp2_with fail
        refine (sec_spec secret _ hs0).mono ?_
        rintro e w9 ⟨rfl, rfl⟩
        rw [hsec]
        go_wp2
        go_ret
        exact Told.none w
      | true =>
        cases hcar : decide (1 ≤ cards ∧ cards ≤ 6) with
        | false =>
          have HE : Hid (splitR secret need cards salt = []) := splitR_no (by rw [HD.out, hcar, hsec]; rfl)
          rw [HE.out]
          go_enter Tryd.func12, Tryd.ntmps12
          go_wp2_with fail
          refine (sec_spec secret _ hs0).mono ?_
          rintro e w9 ⟨rfl, rfl⟩
          rw [hsec]
          go_wp2_with fail
          refine (G0.is_spec cards 1 6 _).mono ?_
          rintro e w9 ⟨rfl, rfl⟩
          rw [hcar]
          go_wp2
          go_ret
          exact Told.none w
        | true =>
          cases hnee : decide (1 ≤ need ∧ need ≤ cards) with
          | false =>
            have HE : Hid (splitR secret need cards salt = []) := splitR_no (by rw [HD.out, hnee, hcar, hsec]; rfl)
            rw [HE.out]
            go_enter Tryd.func12, Tryd.ntmps12
            go_wp2_with fail
            refine (sec_spec secret _ hs0).mono ?_
            rintro e w9 ⟨rfl, rfl⟩
            rw [hsec]
            go_wp2_with fail
            refine (G0.is_spec cards 1 6 _).mono ?_
            rintro e w9 ⟨rfl, rfl⟩
            rw [hcar]
            go_wp2_with fail
            refine (G0.is_spec need 1 cards _).mono ?_
            rintro e w9 ⟨rfl, rfl⟩
            rw [hnee]
            go_wp2
            go_ret
            exact Told.none w
          | true =>
            cases hsal : salOk salt with
            | false =>
              have HE : Hid (splitR secret need cards salt = []) := splitR_no (by rw [HD.out, hsal, hnee, hcar, hsec]; rfl)
              rw [HE.out]
              go_enter Tryd.func12, Tryd.ntmps12
              go_wp2_with fail
              refine (sec_spec secret _ hs0).mono ?_
              rintro e w9 ⟨rfl, rfl⟩
              rw [hsec]
              go_wp2_with fail
              refine (G0.is_spec cards 1 6 _).mono ?_
              rintro e w9 ⟨rfl, rfl⟩
              rw [hcar]
              go_wp2_with fail
              refine (G0.is_spec need 1 cards _).mono ?_
              rintro e w9 ⟨rfl, rfl⟩
              rw [hnee]
              go_wp2_with fail
              refine (sal_spec salt _ ha0).mono ?_
              rintro e w9 ⟨rfl, rfl⟩
              rw [hsal]
              go_wp2
              go_ret
              exact Told.none w
            | true =>
              have q1 := of_decide_eq_true hsec
              have q2 := of_decide_eq_true hcar
              have q3 := of_decide_eq_true hnee
              have q4 := of_decide_eq_true hsal
              obtain ⟨cn, hcn⟩ := Int.eq_ofNat_of_zero_le (show 0 ≤ cards by omega)
              obtain ⟨nn, hnn⟩ := Int.eq_ofNat_of_zero_le (show 0 ≤ need by omega)
              have HE : Hid (splitR secret need cards salt = splitL secret salt (nn - 1) cn) := by
                unfold Hid splitR; rw [HD.out, hsec, hcar, hnee, hsal, show (true && (true && (true && true))) = true from rfl, if_pos rfl, hcn, hnn]; rfl
              have HCN : Hid (cards = (cn : Int) ∧ need = (nn : Int)) := ⟨hcn, hnn⟩
              clear hcn hnn
              rw [HE.out]
              go_enter Tryd.func12, Tryd.ntmps12
              go_wp2_with fail
              refine (sec_spec secret _ hs0).mono ?_
              rintro e w9 ⟨rfl, rfl⟩
              rw [hsec]
              go_wp2_with fail
              refine (G0.is_spec cards 1 6 _).mono ?_
              rintro e w9 ⟨rfl, rfl⟩
              rw [hcar]
              go_wp2_with fail
              refine (G0.is_spec need 1 cards _).mono ?_
              rintro e w9 ⟨rfl, rfl⟩
              rw [hnee]
              go_wp2_with fail
              refine (sal_spec salt _ ha0).mono ?_
              rintro e w9 ⟨rfl, rfl⟩
              rw [hsal]
              clear hsec hcar hnee hsal HE HD d8 e8
              obtain ⟨rfl, rfl⟩ := HCN.out
              have HC : Hid (∀ W, Calls Tryd.prog 35 #[.string secret, .int .i64 (nn : Nat), .int .i64 (cn : Nat), .string salt] W fun e w' => ∃ a cap, e = .returned (.slice a cn cap) ∧ OShares W.heap.size w' (.slice a cn cap) (splitL secret salt (nn - 1) cn) ∧ Below W.heap.size W w') := fun W => J6.split_spec secret salt nn cn W q1.1 q1.2 (by omega) (by omega) (by omega) q4.2
              go_wp2_with fail
              refine (HC.out _).mono ?_
              rintro e w2 ⟨a, cap, rfl, ho, hb⟩
              have HF : Hid (Told w (splitL secret salt (nn - 1) cn) (.returned (.slice a cn cap)) w2) := ⟨a, cap, by rw [splitL_length], by rw [splitL_length]; exact ho, hb⟩
              clear ho hb
              go_wp2
              go_ret
              exact HF.out
    · have e8 : decide ((8000 : Int) < (salt.size : Int)) = true := decide_eq_true (by omega)
      have HE : Hid (splitR secret need cards salt = []) := splitR_no (by rw [HD.out, show salOk salt = false from decide_eq_false (by omega)]; simp)
      rw [HE.out]
      go_enter Tryd.func12, Tryd.ntmps12
      go_wp2
      go_ret
      exact Told.none w
  · have d8 : decide ((8000 : Int) < (secret.size : Int)) = true := decide_eq_true (by omega)
    have HE : Hid (splitR secret need cards salt = []) := splitR_no (by rw [HD.out, show secOk secret = false from decide_eq_false (by omega)]; simp)
    rw [HE.out]
    go_enter Tryd.func12, Tryd.ntmps12
    go_wp2
    go_ret
    exact Told.none w
end Go.Proofs.YtianmmonkllhpaaDoor.J7
