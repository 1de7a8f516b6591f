/-
  The bytes of a card, in the program.
-/
import Derived.Test.YteehgicnfageiaaDoorN2
import Derived.Test.YteehgicnfageiaaDoorP0
import Derived.Test.YteehgicnfageiaaDoorBK
import Derived.Deep.RegionHeld3
namespace Go.Proofs.YteehgicnfageiaaDoor.Q2
open Go.RowKit
open Go.Proofs.YteehgicnfageiaaDoor.C0 Go.Proofs.YteehgicnfageiaaDoor.HB
open Go.Proofs.YteehgicnfageiaaDoor.N0 (Cd cdV cardB)
open Go.Proofs.YteehgicnfageiaaDoor.N2 (numT textT cardT cardBytes numT_size textT_size)
def ok64 (n : Int) : Prop := -9223372036854775808 ≤ n ∧ n ≤ 9223372036854775807
def okT (s : ByteArray) : Prop := s.size ≤ maxLen
theorem num_any (n : Int) (w : World) (h : ok64 n) : Calls Tryd.prog 52 #[.int .i64 n] w fun e w' => e = .returned (.string (numT n)) ∧ Below w.heap.size w w' := C1.put_impl n w h.1 h.2
theorem text_any (s : ByteArray) (w : World) (h : okT s) : Calls Tryd.prog 53 #[.string s] w fun e w' => e = .returned (.string (textT s)) ∧ Below w.heap.size w w' := C3.put_impl s w h
theorem cells6 (w : World) (a b c d e f : ByteArray) : ∀ j, j < 6 → (w.alloc (.cells #[.string a, .string b, .string c, .string d, .string e, .string f] 9)).cell? ⟨w.heap.size, 0 + j, none⟩ = some (.string ([a, b, c, d, e, f].getD j ByteArray.empty)) := by
  intro j hj
  match j, hj with
  | 0, _ => simp [go_sem]
  | 1, _ => simp [go_sem]
  | 2, _ => simp [go_sem]
  | 3, _ => simp [go_sem]
  | 4, _ => simp [go_sem]
  | 5, _ => simp [go_sem]
theorem cat6 (a b c d e f : ByteArray) : (⟨(C2.cat [a, b, c, d, e, f]).toArray⟩ : ByteArray) = ((((a ++ b) ++ c) ++ d) ++ e) ++ f := by
  apply ByteArray.ext
  simp [C2.cat]
theorem join6 (a b c d e f : ByteArray) (w : World) (h : a.size + b.size + c.size + d.size + e.size + f.size ≤ 1000000) :
    Calls Tryd.prog 48 #[.slice (some ⟨w.heap.size, 0, none⟩) 6 6] (w.alloc (.cells #[.string a, .string b, .string c, .string d, .string e, .string f] 9)) fun x w' => x = .returned (.string (((((a ++ b) ++ c) ++ d) ++ e) ++ f)) ∧ Below w.heap.size w w' := by
  refine (C2.joined_any w.heap.size 0 6 6 [a, b, c, d, e, f] _ rfl (by simp) (by omega) (by simp only [C2.total]; omega) (cells6 w a b c d e f)).mono ?_
  rintro x w' ⟨rfl, hb⟩
  exact ⟨by rw [cat6], bel2 (albel _ _) hb⟩
theorem kept6s {W x : World} {g : Nat} {a b c d e f : Value} {T : TypeId} (k : W.heap[g]? = some (.cells #[a, b, c, d, e, f] T (0, 0))) (hx : Below W.heap.size W x) :
    x.cell? ⟨g, 0, none⟩ = some a ∧ x.cell? ⟨g, 1, none⟩ = some b ∧ x.cell? ⟨g, 2, none⟩ = some c ∧ x.cell? ⟨g, 3, none⟩ = some d ∧ x.cell? ⟨g, 4, none⟩ = some e ∧ x.cell? ⟨g, 5, none⟩ = some f :=
  ⟨block_cell (carry k hx) 0, block_cell (carry k hx) 1, block_cell (carry k hx) 2, block_cell (carry k hx) 3, block_cell (carry k hx) 4, block_cell (carry k hx) 5⟩
set_option maxRecDepth 100000 in
set_option maxHeartbeats 3200000 in
theorem bytes_impl (c : Cd) (w : World) (hp : c.pin.size ≤ maxLen) (hd : c.dt.size ≤ maxLen) (hi : -9223372036854775808 ≤ c.id ∧ c.id ≤ 9223372036854775807) :
    Calls Tryd.prog 15 #[cdV c] w fun e w' => e = .returned (.string (cardBytes c)) ∧ Below w.heap.size w w' := by
  have hC := fun W => P0.card_impl c W hp hd
  have HD : Hid (cardBytes c = if cardB c = true then ⟨(C6.sealOf (cardT c)).toArray⟩ else ⟨#[]⟩) := rfl
  cases hb : cardB c with
  | false =>
    have HE : Hid (cardBytes c = ⟨#[]⟩) := by unfold Hid; rw [HD.out, hb]; rfl
    rw [HE.out]
    rw [hb] at hC
    unfold cdV at hC ⊢
    go_enter Tryd.func15, Tryd.ntmps15
    go_wp2_with fail
    refine (hC _).mono ?_
    rintro e w1 ⟨rfl, hb1⟩
    have HB : Hid (Below w.heap.size w w1) := bel2 (albel w _) hb1
    clear hb1
    go_wp2
    go_ret
    exact ⟨rfl, HB.out⟩
  | true =>
    have hsz := N2.cardT_size c hb
    have HE : Hid (cardBytes c = ⟨(C6.sealOf (cardT c)).toArray⟩) := by unfold Hid; rw [HD.out, hb]; rfl
    rw [HE.out]
    rw [hb] at hC
    have hok := hb
    unfold cardB at hok
    obtain ⟨o1, hok⟩ := Bool.and_eq_true_iff.1 hok
    obtain ⟨o2, hok⟩ := Bool.and_eq_true_iff.1 hok
    obtain ⟨o3, hok⟩ := Bool.and_eq_true_iff.1 hok
    obtain ⟨o4, o5⟩ := Bool.and_eq_true_iff.1 hok
    have o1 := of_decide_eq_true o1
    have o2 := of_decide_eq_true o2
    have o3 := of_decide_eq_true o3
    have o4 := of_decide_eq_true o4
    unfold J1.shareR at o5
    have o5 := of_decide_eq_true o5
    obtain ⟨id, ep, pin, tr, ix, dt⟩ := c
    have HT : Hid (cardT ⟨id, ep, pin, tr, ix, dt⟩ = ((((numT id ++ numT ep) ++ textT pin) ++ numT tr) ++ numT ix) ++ textT dt) := rfl
    dsimp only at hp hd hi o1 o2 o3 o4 o5
    have a1 := numT_size id
    have a2 := numT_size ep
    have a3 := textT_size pin
    have a4 := numT_size tr
    have a5 := numT_size ix
    have a6 := textT_size dt
    have g1 : ok64 id := hi
    have g2 : ok64 ep := ⟨by omega, by omega⟩
    have g3 : ok64 tr := ⟨by omega, by omega⟩
    have g4 : ok64 ix := ⟨by omega, by omega⟩
    have g5 : okT pin := hp
    have g6 : okT dt := hd
    rw [HT.out] at hsz ⊢
    have HJ : Hid ((numT id).size + (numT ep).size + (textT pin).size + (numT tr).size + (numT ix).size + (textT dt).size ≤ 1000000) := by unfold Hid; omega
    have HS : Hid (∀ W, Calls Tryd.prog 51 #[.string (((((numT id ++ numT ep) ++ textT pin) ++ numT tr) ++ numT ix) ++ textT dt)] W fun e w' => e = .returned (.string ⟨(C6.sealOf (((((numT id ++ numT ep) ++ textT pin) ++ numT tr) ++ numT ix) ++ textT dt)).toArray⟩) ∧ Below W.heap.size W w') := fun W => C6.seal_impl _ W (by unfold maxLen; omega)
    have k0 := heap_alloc_new w (.cells #[.int .i64 id, .int .i64 ep, .string pin, .int .i64 tr, .int .i64 ix, .string dt] 26)
    have B0 := albel w (.cells #[.int .i64 id, .int .i64 ep, .string pin, .int .i64 tr, .int .i64 ix, .string dt] 26)
    unfold cdV at hC ⊢
    dsimp only at hC ⊢
    clear HD HE HT hb o1 o2 o3 o4 o5 hp hd hi a1 a2 a3 a4 a5 a6 hsz
    go_enter Tryd.func15, Tryd.ntmps15
    go_wp2_with fail
    refine (hC _).mono ?_
    rintro e W ⟨rfl, hb1⟩
    have KC : Hid _ := carry k0 hb1
    have B1 : Hid (Below w.heap.size w W) := bel2 B0 hb1
    obtain ⟨q0, q1, q2, q3, q4, q5, qf⟩ := BK.blk6 KC.out
    clear k0 B0 hb1 hC
    go_wp2_with fail
    go_region_held3 (fun x => x.cell? ⟨w.heap.size, 0, none⟩ = some (.int .i64 id) ∧ x.cell? ⟨w.heap.size, 1, none⟩ = some (.int .i64 ep) ∧ x.cell? ⟨w.heap.size, 2, none⟩ = some (.string pin) ∧ x.cell? ⟨w.heap.size, 3, none⟩ = some (.int .i64 tr) ∧ x.cell? ⟨w.heap.size, 4, none⟩ = some (.int .i64 ix) ∧ x.cell? ⟨w.heap.size, 5, none⟩ = some (.string dt))
      (first
        | (with_reducible exact kept6s KC.out BN)
        | (with_reducible exact kept6s KC.out (Below.refl _ _).drew)
        | (with_reducible exact kept6s KC.out (bel2 BN (albel _ _)))
        | go_keep)
      (first
        | (go_at_call 52; refine (num_any _ _ ?_).mono ?_; assumption; rintro e wn ⟨rfl, hbn⟩; have BN : Below W.heap.size W wn := (by first | exact bel2 BN hbn | exact undrew hbn))
        | (go_at_call 53; refine (text_any _ _ ?_).mono ?_; assumption; rintro e wn ⟨rfl, hbn⟩; have BN : Below W.heap.size W wn := bel2 BN hbn)
        | (go_at_call 48; refine (join6 (numT id) (numT ep) (textT pin) (numT tr) (numT ix) (textT dt) _ HJ.out).mono ?_; rintro e wn ⟨rfl, hbn⟩; have BN : Below W.heap.size W wn := bel2 BN hbn)
        | (go_at_call 51; refine (HS.out _).mono ?_; rintro e wn ⟨rfl, hbn⟩; have BN : Below W.heap.size W wn := bel2 BN hbn))
    have B9 : Hid (Below w.heap.size w wn) := bel2 B1.out BN
    go_wp2
    go_ret
    exact ⟨rfl, B9.out⟩
end Go.Proofs.YteehgicnfageiaaDoor.Q2
