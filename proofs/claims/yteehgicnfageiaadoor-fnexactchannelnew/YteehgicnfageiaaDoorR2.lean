/-
  ChannelNew: the key of both ends, in the specification.
-/
import Derived.Test.YteehgicnfageiaaDoorR1
import Derived.Test.YteehgicnfageiaaDoorC3
import Derived.Test.YteehgicnfageiaaDoorKA
namespace Go.Proofs.YteehgicnfageiaaDoor.R2
open Go.RowKit
open Go.Proofs.YteehgicnfageiaaDoor.C0 Go.Proofs.YteehgicnfageiaaDoor.HB
open Go.Proofs.YteehgicnfageiaaDoor.R0 Go.Proofs.YteehgicnfageiaaDoor.R1
open Go.Proofs.YteehgicnfageiaaDoor.K3 (bytesOf)

def textT (s : ByteArray) : ByteArray := ⟨(C3.putText s).toArray⟩
theorem textT_size (s : ByteArray) (h : s.size ≤ 8000) : (textT s).size ≤ 8010 := by
  have := C3.putNum_len (s.size : Int)
  unfold textT
  rw [C3.size_mk]
  unfold C3.putText
  rw [if_neg (by omega), List.length_append]
  have e : s.data.toList.length = s.size := by rw [Array.length_toList]; rfl
  omega
/-- The key of a secret and two ends. -/
def lk (s a b : ByteArray) : ByteArray := ⟨(Ms.mac (bytesOf s) (bytesOf (textT a ++ textT b))).toArray⟩
theorem mac_size (k t : List UInt8) : (⟨(Ms.mac k t).toArray⟩ : ByteArray).size = 32 := by
  rw [KA.size_mk, KA.mac_macS]; unfold KA.macS; exact Ms.digest_length _
def less (a b : ByteArray) : Bool := Go.Op.bytesLess a.toList b.toList
def endsKey (s o t : ByteArray) : ByteArray := if less t o = true then lk s t o else lk s o t
def okT (s : ByteArray) : Bool := decide (1 ≤ s.size ∧ s.size ≤ 32)
def alike (a b : ByteArray) : Bool := a.toList == b.toList
def newOk (s o t : ByteArray) : Bool := okT s && (okT o && (okT t && !alike o t))
def newH (s o t : ByteArray) : HO :=
  if 8000 < s.size ∨ 8000 < o.size ∨ 8000 < t.size then ill 2 else if newOk s o t = true then ⟨⟨endsKey s o t, 0, 0⟩, ⟨#[]⟩, 0⟩ else ill 1
theorem less_nil (l : List UInt8) : Go.Op.bytesLess l [] = false := by cases l <;> rfl
theorem less_flip : ∀ a b : List UInt8, ¬ a = b → Go.Op.bytesLess a b = !Go.Op.bytesLess b a
  | [], [], h => absurd rfl h
  | [], _ :: _, _ => rfl
  | _ :: _, [], _ => rfl
  | x :: a, y :: b, h => by
    show (decide (x < y) || (x == y && Go.Op.bytesLess a b)) = !(decide (y < x) || (y == x && Go.Op.bytesLess b a))
    by_cases hxy : x = y
    · subst hxy
      have := less_flip a b (fun e => h (by rw [e]))
      have hx : ¬ x < x := UInt8.lt_irrefl x
      simp [hx, this]
    · have h1 : (x == y) = false := by simp [hxy]
      have h2 : (y == x) = false := by simp; exact fun e => hxy e.symm
      rw [h1, h2]
      have : (y < x) ↔ ¬ (x < y) := by
        rw [UInt8.lt_iff_toNat_lt, UInt8.lt_iff_toNat_lt]
        have : x.toNat ≠ y.toNat := fun e => hxy (UInt8.toNat_inj.1 e)
        omega
      by_cases hlt : x < y
      · simp [hlt, this]
      · simp [hlt, this]
theorem okI (n : Nat) : (decide ((1 : Int) ≤ (n : Int)) && decide ((n : Int) ≤ 32)) = decide (1 ≤ n ∧ n ≤ 32) := by rw [Bool.eq_iff_iff]; simp; omega
theorem ill_spec (k : Int) (w : World) : Calls Tryd.prog 81 #[.int .i64 k] w fun e w' => e = .returned (hoV (ill k)) ∧ Below w.heap.size w w' := by
  rw [hoV_ill]
  go_enter Tryd.func81, Tryd.ntmps81
  go_wp2
  exact bodyPost_ret (v := .agg #[.string ⟨#[]⟩, .int .i64 0, .int .i64 0, .string ⟨#[]⟩, .int .i64 k]) (by simp [results, Tryd.results81, go_sem]) rfl ⟨rfl, (Below.refl _ _).alloc (Nat.le_refl _) _⟩
theorem text_spec (s : ByteArray) (w : World) (hs : s.size ≤ maxLen) :
    Calls Tryd.prog 82 #[.string s] w fun e w' => e = .returned (.bool (okT s)) ∧ w = w' := by
  unfold maxLen at hs
  unfold okT
  by_cases h1 : 1 ≤ s.size
  · go_enter Tryd.func82, Tryd.ntmps82
    go_wp2
    go_ret
    exact ⟨ret_val (by congr 1; simp [h1]; omega), rfl⟩
  · go_enter Tryd.func82, Tryd.ntmps82
    go_wp2
    go_ret
    exact ⟨ret_val (by congr 1), rfl⟩
theorem text_impl (s : ByteArray) (w : World) :
    Calls Tryd.prog 74 #[.string s] w fun e w' => e = .returned (.bool (okT s)) ∧ w = w' := by
  go_enter Tryd.func74, Tryd.ntmps74
  go_wp2_with fail
  refine (P0.from_impl 1 (s.size : Int) 32 _).mono ?_
  rintro e w1 ⟨rfl, rfl⟩
  go_wp2
  go_ret
  exact ⟨ret_val (show Value.bool (decide ((1 : Int) ≤ (s.size : Int)) && decide ((s.size : Int) ≤ 32)) = _ from congrArg Value.bool (okI s.size)), rfl⟩
theorem textT_few (s : ByteArray) (h : s.size ≤ 200) : (textT s).size ≤ 210 := by
  have := C3.putNum_len (s.size : Int)
  unfold textT
  rw [C3.size_mk]
  unfold C3.putText
  rw [if_neg (by omega), List.length_append]
  have e : s.data.toList.length = s.size := by rw [Array.length_toList]; rfl
  omega
set_option maxRecDepth 100000 in
set_option maxHeartbeats 3200000 in
theorem new_spec (s o t : ByteArray) (w : World) (hs : s.size ≤ maxLen) (ho : o.size ≤ maxLen) (ht : t.size ≤ maxLen) :
    Calls Tryd.prog 33 #[.string s, .string o, .string t] w fun e w' => e = .returned (hoV (newH s o t)) ∧ Below w.heap.size w w' := by
  unfold maxLen at hs ho ht
  have HI : Hid (∀ k W, Calls Tryd.prog 81 #[.int .i64 k] W fun e w' => e = .returned (.agg #[.string ⟨#[]⟩, .int .i64 0, .int .i64 0, .string ⟨#[]⟩, .int .i64 k]) ∧ Below W.heap.size W w') := fun k W => ill_spec k W
  have k0 := heap_alloc_new w (.cells #[.string ⟨#[]⟩, .int .i64 0, .int .i64 0, .string ⟨#[]⟩, .int .i64 0] 51)
  have B0 : Hid (Below w.heap.size w (w.alloc (.cells #[.string ⟨#[]⟩, .int .i64 0, .int .i64 0, .string ⟨#[]⟩, .int .i64 0] 51))) := albel w _
  by_cases hz : 8000 < s.size ∨ 8000 < o.size ∨ 8000 < t.size
  · rw [show newH s o t = ill 2 from if_pos hz, hoV_ill]
    have hz' : 8000 < s.size ∨ (¬ 8000 < s.size ∧ 8000 < o.size) ∨ (¬ 8000 < s.size ∧ ¬ 8000 < o.size ∧ 8000 < t.size) := by omega
    clear hz
    rcases hz' with h | ⟨h1, h⟩ | ⟨h1, h2, h⟩
    · go_enter Tryd.func33, Tryd.ntmps33
      go_wp2_with fail
      refine (HI.out _ _).mono ?_
      rintro e w2 ⟨rfl, hb⟩
      have kx := carry k0 hb
      obtain ⟨c0, c1, c2, c3, c4, cf⟩ := blk5f kx
      have B2 : Hid (Below w.heap.size w w2) := bel2 B0.out hb
      clear hb kx k0
      go_wp2
      exact bodyPost_ret (v := .agg #[.string ⟨#[]⟩, .int .i64 0, .int .i64 0, .string ⟨#[]⟩, .int .i64 2]) (by simp [results, Tryd.results33, go_sem, c0, c1, c2, c3, c4]) rfl ⟨rfl, ((((((B2.out).setCell (Nat.le_refl _) _).setCell (Nat.le_refl _) _).setCell (Nat.le_refl _) _).setCell (Nat.le_refl _) _).setCell (Nat.le_refl _) _)⟩
    · go_enter Tryd.func33, Tryd.ntmps33
      go_wp2_with fail
      refine (HI.out _ _).mono ?_
      rintro e w2 ⟨rfl, hb⟩
      have kx := carry k0 hb
      obtain ⟨c0, c1, c2, c3, c4, cf⟩ := blk5f kx
      have B2 : Hid (Below w.heap.size w w2) := bel2 B0.out hb
      clear hb kx k0
      go_wp2
      exact bodyPost_ret (v := .agg #[.string ⟨#[]⟩, .int .i64 0, .int .i64 0, .string ⟨#[]⟩, .int .i64 2]) (by simp [results, Tryd.results33, go_sem, c0, c1, c2, c3, c4]) rfl ⟨rfl, ((((((B2.out).setCell (Nat.le_refl _) _).setCell (Nat.le_refl _) _).setCell (Nat.le_refl _) _).setCell (Nat.le_refl _) _).setCell (Nat.le_refl _) _)⟩
    · go_enter Tryd.func33, Tryd.ntmps33
      go_wp2_with fail
      refine (HI.out _ _).mono ?_
      rintro e w2 ⟨rfl, hb⟩
      have kx := carry k0 hb
      obtain ⟨c0, c1, c2, c3, c4, cf⟩ := blk5f kx
      have B2 : Hid (Below w.heap.size w w2) := bel2 B0.out hb
      clear hb kx k0
      go_wp2
      exact bodyPost_ret (v := .agg #[.string ⟨#[]⟩, .int .i64 0, .int .i64 0, .string ⟨#[]⟩, .int .i64 2]) (by simp [results, Tryd.results33, go_sem, c0, c1, c2, c3, c4]) rfl ⟨rfl, ((((((B2.out).setCell (Nat.le_refl _) _).setCell (Nat.le_refl _) _).setCell (Nat.le_refl _) _).setCell (Nat.le_refl _) _).setCell (Nat.le_refl _) _)⟩
  have h1 : ¬ 8000 < s.size := by omega
  have h2 : ¬ 8000 < o.size := by omega
  have h3 : ¬ 8000 < t.size := by omega
  have HT : Hid (∀ x : ByteArray, x.size ≤ 8000 → ∀ W, Calls Tryd.prog 82 #[.string x] W fun e w' => e = .returned (.bool (okT x)) ∧ W = w') := fun x hx W => text_spec x W (by unfold maxLen; omega)
  have TS := HT.out s (by omega)
  have TO := HT.out o (by omega)
  have TT := HT.out t (by omega)
  clear HT
  have hN : newH s o t = if newOk s o t = true then ⟨⟨endsKey s o t, 0, 0⟩, ⟨#[]⟩, 0⟩ else ill 1 := if_neg hz
  rw [hN]
  unfold newOk
  cases g1 : okT s with
  | false =>
    rw [show (false && (okT o && (okT t && !alike o t))) = false from rfl, if_neg (by decide), hoV_ill]
    rw [g1] at TS
    go_enter Tryd.func33, Tryd.ntmps33
    go_wp2_with fail
    refine (TS _).mono ?_
    rintro e w1 ⟨rfl, rfl⟩
    go_wp2_with fail
    refine (HI.out _ _).mono ?_
    rintro e w2 ⟨rfl, hb⟩
    have kx := carry k0 hb
    obtain ⟨c0, c1, c2, c3, c4, cf⟩ := blk5f kx
    have B2 : Hid (Below w.heap.size w w2) := bel2 B0.out hb
    clear hb kx k0
    go_wp2
    exact bodyPost_ret (v := .agg #[.string ⟨#[]⟩, .int .i64 0, .int .i64 0, .string ⟨#[]⟩, .int .i64 1]) (by simp [results, Tryd.results33, go_sem, c0, c1, c2, c3, c4]) rfl ⟨rfl, ((((((B2.out).setCell (Nat.le_refl _) _).setCell (Nat.le_refl _) _).setCell (Nat.le_refl _) _).setCell (Nat.le_refl _) _).setCell (Nat.le_refl _) _)⟩
  | true =>
    cases g2 : okT o with
    | false =>
      rw [show (true && (false && (okT t && !alike o t))) = false from rfl, if_neg (by decide), hoV_ill]
      rw [g1] at TS
      rw [g2] at TO
      go_enter Tryd.func33, Tryd.ntmps33
      go_wp2_with fail
      refine (TS _).mono ?_
      rintro e w1 ⟨rfl, rfl⟩
      go_wp2_with fail
      refine (TO _).mono ?_
      rintro e w1 ⟨rfl, rfl⟩
      go_wp2_with fail
      refine (HI.out _ _).mono ?_
      rintro e w2 ⟨rfl, hb⟩
      have kx := carry k0 hb
      obtain ⟨c0, c1, c2, c3, c4, cf⟩ := blk5f kx
      have B2 : Hid (Below w.heap.size w w2) := bel2 B0.out hb
      clear hb kx k0
      go_wp2
      exact bodyPost_ret (v := .agg #[.string ⟨#[]⟩, .int .i64 0, .int .i64 0, .string ⟨#[]⟩, .int .i64 1]) (by simp [results, Tryd.results33, go_sem, c0, c1, c2, c3, c4]) rfl ⟨rfl, ((((((B2.out).setCell (Nat.le_refl _) _).setCell (Nat.le_refl _) _).setCell (Nat.le_refl _) _).setCell (Nat.le_refl _) _).setCell (Nat.le_refl _) _)⟩
    | true =>
      cases g3 : okT t with
      | false =>
        rw [show (true && (true && (false && !alike o t))) = false from rfl, if_neg (by decide), hoV_ill]
        rw [g1] at TS
        rw [g2] at TO
        rw [g3] at TT
        go_enter Tryd.func33, Tryd.ntmps33
        go_wp2_with fail
        refine (TS _).mono ?_
        rintro e w1 ⟨rfl, rfl⟩
        go_wp2_with fail
        refine (TO _).mono ?_
        rintro e w1 ⟨rfl, rfl⟩
        go_wp2_with fail
        refine (TT _).mono ?_
        rintro e w1 ⟨rfl, rfl⟩
        go_wp2_with fail
        refine (HI.out _ _).mono ?_
        rintro e w2 ⟨rfl, hb⟩
        have kx := carry k0 hb
        obtain ⟨c0, c1, c2, c3, c4, cf⟩ := blk5f kx
        have B2 : Hid (Below w.heap.size w w2) := bel2 B0.out hb
        clear hb kx k0
        go_wp2
        exact bodyPost_ret (v := .agg #[.string ⟨#[]⟩, .int .i64 0, .int .i64 0, .string ⟨#[]⟩, .int .i64 1]) (by simp [results, Tryd.results33, go_sem, c0, c1, c2, c3, c4]) rfl ⟨rfl, ((((((B2.out).setCell (Nat.le_refl _) _).setCell (Nat.le_refl _) _).setCell (Nat.le_refl _) _).setCell (Nat.le_refl _) _).setCell (Nat.le_refl _) _)⟩
      | true =>
        cases g4 : alike o t with
        | true =>
          rw [show (true && (true && (true && !true))) = false from rfl, if_neg (by decide), hoV_ill]
          rw [g1] at TS
          rw [g2] at TO
          rw [g3] at TT
          unfold alike at g4
          go_enter Tryd.func33, Tryd.ntmps33
          go_wp2_with fail
          refine (TS _).mono ?_
          rintro e w1 ⟨rfl, rfl⟩
          go_wp2_with fail
          refine (TO _).mono ?_
          rintro e w1 ⟨rfl, rfl⟩
          go_wp2_with fail
          refine (TT _).mono ?_
          rintro e w1 ⟨rfl, rfl⟩
          go_wp2_with fail
          refine (HI.out _ _).mono ?_
          rintro e w2 ⟨rfl, hb⟩
          have kx := carry k0 hb
          obtain ⟨c0, c1, c2, c3, c4, cf⟩ := blk5f kx
          have B2 : Hid (Below w.heap.size w w2) := bel2 B0.out hb
          clear hb kx k0
          go_wp2
          exact bodyPost_ret (v := .agg #[.string ⟨#[]⟩, .int .i64 0, .int .i64 0, .string ⟨#[]⟩, .int .i64 1]) (by simp [results, Tryd.results33, go_sem, c0, c1, c2, c3, c4]) rfl ⟨rfl, ((((((B2.out).setCell (Nat.le_refl _) _).setCell (Nat.le_refl _) _).setCell (Nat.le_refl _) _).setCell (Nat.le_refl _) _).setCell (Nat.le_refl _) _)⟩
        | false =>
          rw [show (true && (true && (true && !false))) = true from rfl, if_pos rfl]
          rw [g1] at TS
          rw [g2] at TO
          rw [g3] at TT
          unfold alike at g4
          have ot := textT_size o (by omega)
          have tt := textT_size t (by omega)
          have so : 1 ≤ o.size ∧ o.size ≤ 32 := of_decide_eq_true g2
          have st : 1 ≤ t.size ∧ t.size ≤ 32 := of_decide_eq_true g3
          cases hl : less t o with
          | true =>
            rw [show endsKey s o t = lk s t o from if_pos hl]
            have HA : Hid (∀ W, Calls Tryd.prog 67 #[.string t] W fun e w' => e = .returned (.string (textT t)) ∧ Below W.heap.size W w') := fun W => C3.put_spec t W (by unfold maxLen; omega)
            have HB : Hid (∀ W, Calls Tryd.prog 67 #[.string o] W fun e w' => e = .returned (.string (textT o)) ∧ Below W.heap.size W w') := fun W => C3.put_spec o W (by unfold maxLen; omega)
            have hj : (textT t ++ textT o).size ≤ 8000 := by rw [ByteArray.size_append]; have := textT_few t (by omega); have := textT_few o (by omega); omega
            have HM : Hid (∀ W, Calls Tryd.prog 80 #[.string s, .string (textT t ++ textT o)] W fun e w' => e = .returned (.string (lk s t o)) ∧ Below W.heap.size W w') := fun W => KA.mac_spec s (textT t ++ textT o) W (by omega) hj
            have hadd : (textT t).size + (textT o).size ≤ 9223372036854775807 := by omega
            generalize lk s t o = m at *
            unfold less at hl
            clear hj so st g1 g2 g3
            generalize textT t = x at *
            generalize textT o = y at *
            go_enter Tryd.func33, Tryd.ntmps33
            go_wp2_with fail
            refine (TS _).mono ?_
            rintro e w1 ⟨rfl, rfl⟩
            go_wp2_with fail
            refine (TO _).mono ?_
            rintro e w1 ⟨rfl, rfl⟩
            go_wp2_with fail
            refine (TT _).mono ?_
            rintro e w1 ⟨rfl, rfl⟩
            go_wp2_with fail
            refine (HA.out _).mono ?_
            rintro e v0 ⟨rfl, hb⟩
            have k1 := carry k0 hb
            have B1 : Hid (Below w.heap.size w v0) := bel2 B0.out hb
            clear hb k0
            go_wp2_with fail
            refine (HB.out _).mono ?_
            rintro e v1 ⟨rfl, hb⟩
            have k2 := carry k1 hb
            have B2 : Hid (Below w.heap.size w v1) := bel2 B1.out hb
            clear hb k1
            go_wp2_with fail
            refine (HM.out _).mono ?_
            rintro e v2 ⟨rfl, hb⟩
            have k3 := carry k2 hb
            have B3 : Hid (Below w.heap.size w v2) := bel2 B2.out hb
            clear hb k2
            obtain ⟨c0, c1, c2, c3, c4, cf⟩ := blk5f k3
            clear k3
            go_wp2
            exact bodyPost_ret (v := .agg #[.string m, .int .i64 0, .int .i64 0, .string ⟨#[]⟩, .int .i64 0]) (by simp [results, Tryd.results33, go_sem, c0, c1, c2, c3, c4]) rfl ⟨rfl, ((((((B3.out).setCell (Nat.le_refl _) _).setCell (Nat.le_refl _) _).setCell (Nat.le_refl _) _).setCell (Nat.le_refl _) _).setCell (Nat.le_refl _) _)⟩
          | false =>
            rw [show endsKey s o t = lk s o t from if_neg (by rw [hl]; decide)]
            have HA : Hid (∀ W, Calls Tryd.prog 67 #[.string o] W fun e w' => e = .returned (.string (textT o)) ∧ Below W.heap.size W w') := fun W => C3.put_spec o W (by unfold maxLen; omega)
            have HB : Hid (∀ W, Calls Tryd.prog 67 #[.string t] W fun e w' => e = .returned (.string (textT t)) ∧ Below W.heap.size W w') := fun W => C3.put_spec t W (by unfold maxLen; omega)
            have hj : (textT o ++ textT t).size ≤ 8000 := by rw [ByteArray.size_append]; have := textT_few o (by omega); have := textT_few t (by omega); omega
            have HM : Hid (∀ W, Calls Tryd.prog 80 #[.string s, .string (textT o ++ textT t)] W fun e w' => e = .returned (.string (lk s o t)) ∧ Below W.heap.size W w') := fun W => KA.mac_spec s (textT o ++ textT t) W (by omega) hj
            have hadd : (textT o).size + (textT t).size ≤ 9223372036854775807 := by omega
            generalize lk s o t = m at *
            unfold less at hl
            clear hj so st g1 g2 g3
            generalize textT o = x at *
            generalize textT t = y at *
            go_enter Tryd.func33, Tryd.ntmps33
            go_wp2_with fail
            refine (TS _).mono ?_
            rintro e w1 ⟨rfl, rfl⟩
            go_wp2_with fail
            refine (TO _).mono ?_
            rintro e w1 ⟨rfl, rfl⟩
            go_wp2_with fail
            refine (TT _).mono ?_
            rintro e w1 ⟨rfl, rfl⟩
            go_wp2_with fail
            refine (HA.out _).mono ?_
            rintro e v0 ⟨rfl, hb⟩
            have k1 := carry k0 hb
            have B1 : Hid (Below w.heap.size w v0) := bel2 B0.out hb
            clear hb k0
            go_wp2_with fail
            refine (HB.out _).mono ?_
            rintro e v1 ⟨rfl, hb⟩
            have k2 := carry k1 hb
            have B2 : Hid (Below w.heap.size w v1) := bel2 B1.out hb
            clear hb k1
            go_wp2_with fail
            refine (HM.out _).mono ?_
            rintro e v2 ⟨rfl, hb⟩
            have k3 := carry k2 hb
            have B3 : Hid (Below w.heap.size w v2) := bel2 B2.out hb
            clear hb k2
            obtain ⟨c0, c1, c2, c3, c4, cf⟩ := blk5f k3
            clear k3
            go_wp2
            exact bodyPost_ret (v := .agg #[.string m, .int .i64 0, .int .i64 0, .string ⟨#[]⟩, .int .i64 0]) (by simp [results, Tryd.results33, go_sem, c0, c1, c2, c3, c4]) rfl ⟨rfl, ((((((B3.out).setCell (Nat.le_refl _) _).setCell (Nat.le_refl _) _).setCell (Nat.le_refl _) _).setCell (Nat.le_refl _) _).setCell (Nat.le_refl _) _)⟩
end Go.Proofs.YteehgicnfageiaaDoor.R2
