/-
  U0 U2 U4 U8: parts of the proof, one behind the other.
-/
import Derived.Test.YtfiabbfdnmldjaaGreatDoorPC
import Derived.Test.YtfiabbfdnmldjaaGreatDoorPG
import Derived.Deep.RegionHeld3
import Derived.Test.YtfiabbfdnmldjaaGreatDoorPB
import Derived.Test.YtfiabbfdnmldjaaGreatDoorPD
import Derived.Test.YtfiabbfdnmldjaaGreatDoorPH
import Derived.Test.YtfiabbfdnmldjaaGreatDoorPJ
import Derived.Test.YtfiabbfdnmldjaaGreatDoorPA
/-
  How many bytes a side has room for, as the specification and as the program have it.
-/
namespace Go.Proofs.YtfiabbfdnmldjaaGreatDoor.U0
open Go.RowKit
open Go.Proofs.YtfiabbfdnmldjaaGreatDoor.C0 Go.Proofs.YtfiabbfdnmldjaaGreatDoor.S0 Go.Proofs.YtfiabbfdnmldjaaGreatDoor.S1 Go.Proofs.YtfiabbfdnmldjaaGreatDoor.S3 Go.Proofs.YtfiabbfdnmldjaaGreatDoor.O1 Go.Proofs.YtfiabbfdnmldjaaGreatDoor.T0 Go.Proofs.YtfiabbfdnmldjaaGreatDoor.T1
open Go.Proofs.YtfiabbfdnmldjaaGreatDoor.Dk (rightB right_iff)
/-- How many sectors a side has. -/
def halfN (n : Nat) : Nat := (n - 1) / 2
def roomN (ss : List ByteArray) (ps : List Pend) : Nat := if rightB ss ps = true then halfN ss.length * 64 else 0
theorem half_div (n : Nat) (h : 1 ≤ n) : ((n : Int) - 1) / 2 = (halfN n : Int) := by unfold halfN; omega
theorem half_le (n : Nat) (h : n ≤ 64) : halfN n ≤ 31 := by unfold halfN; omega
set_option maxRecDepth 100000 in
theorem half_spec (a : Option Addr) (n cap : Nat) (vp : Value) (w : World) (h1 : 1 ≤ n) (h2 : n ≤ 64) : Calls Tryz.prog 46 #[.agg #[.slice a n cap, vp]] w fun e w' => e = .returned (.int .i64 (halfN n)) ∧ Below w.heap.size w w' := by
  have HT : Hid _ := half_div n h1
  go_enter Tryz.func46, Tryz.ntmps46
  go_wp2
  go_ret
  exact ⟨ret_int HT.out, albel _ _⟩
set_option maxRecDepth 100000 in
theorem half_impl (a : Option Addr) (n cap : Nat) (vp : Value) (w : World) (h1 : 1 ≤ n) (h2 : n ≤ 64) : Calls Tryz.prog 51 #[.agg #[.slice a n cap, vp]] w fun e w' => e = .returned (.int .i64 (halfN n)) ∧ Below w.heap.size w w' := by
  have HT : Hid _ := half_div n h1
  go_enter Tryz.func51, Tryz.ntmps51
  go_wp2
  go_ret
  exact ⟨ret_int HT.out, albel _ _⟩
theorem room_yes {ss : List ByteArray} {ps : List Pend} (h : rightB ss ps = true) : roomN ss ps = halfN ss.length * 64 := by unfold roomN; rw [if_pos h]
theorem room_no {ss : List ByteArray} {ps : List Pend} (h : rightB ss ps = false) : roomN ss ps = 0 := by unfold roomN; rw [if_neg (by rw [h]; simp)]
set_option maxRecDepth 100000 in
theorem room_spec (vs vp : Value) (ss : List ByteArray) (ps : List Pend) (w : World) (hs : Strs w vs ss) (hp : Pends w vp ps) (hz : ∀ s ∈ ss, s.size ≤ maxLen) (hzp : ∀ p ∈ ps, p.2.size ≤ maxLen) :
    Calls Tryz.prog 17 #[.agg #[vs, vp]] w fun e w' => e = .returned (.int .i64 (roomN ss ps)) ∧ Below w.heap.size w w' := by
  have b0 := albel w (.cells #[vs, vp] 26)
  have k0 := heap_alloc_new w (.cells #[vs, vp] 26)
  obtain ⟨sa, sc, rfl⟩ : ∃ a c, vs = .slice a ss.length c := hs.len
  go_enter Tryz.func17, Tryz.ntmps17
  go_wp2_with fail
  refine (right_spec _ _ ss ps _ (hs.below b0) (hp.below b0) hz hzp).mono ?_
  rintro e w1 ⟨rfl, hb1⟩
  have B1 := bel2 b0 hb1
  obtain ⟨q0, q1, -, -⟩ := blk2 (carry k0 hb1)
  clear k0 hb1 b0
  cases hR : rightB ss ps
  · go_wp2
    go_ret
    exact ⟨ret_int (by rw [room_no hR]; rfl), B1⟩
  · obtain ⟨n1, n2, -, -, -⟩ := (right_iff ss ps).1 hR
    have hh := half_le _ n2
    have HR : Hid (rightB ss ps = true) := hR
    clear hR
    go_wp2_with fail
    refine (half_spec _ _ _ _ _ n1 n2).mono ?_
    rintro e w2 ⟨rfl, hb2⟩
    go_wp2
    go_ret
    exact ⟨ret_int (by rw [room_yes HR.out]; omega), bel2 B1 hb2⟩
set_option maxRecDepth 100000 in
theorem room_impl (vs vp : Value) (ss : List ByteArray) (ps : List Pend) (w : World) (hs : Strs w vs ss) (hp : Pends w vp ps) (hz : ∀ s ∈ ss, s.size ≤ maxLen) (hzp : ∀ p ∈ ps, p.2.size ≤ maxLen) :
    Calls Tryz.prog 16 #[.agg #[vs, vp]] w fun e w' => e = .returned (.int .i64 (roomN ss ps)) ∧ Below w.heap.size w w' := by
  have b0 := albel w (.cells #[vs, vp] 26)
  have k0 := heap_alloc_new w (.cells #[vs, vp] 26)
  obtain ⟨sa, sc, rfl⟩ : ∃ a c, vs = .slice a ss.length c := hs.len
  go_enter Tryz.func16, Tryz.ntmps16
  go_wp2_with fail
  refine (right_impl _ _ ss ps _ (hs.below b0) (hp.below b0) hz hzp).mono ?_
  rintro e w1 ⟨rfl, hb1⟩
  have B1 := bel2 b0 hb1
  obtain ⟨q0, q1, -, -⟩ := blk2 (carry k0 hb1)
  clear k0 hb1 b0
  cases hR : rightB ss ps
  · go_wp2
    go_ret
    exact ⟨ret_int (by rw [room_no hR]; rfl), B1⟩
  · obtain ⟨n1, n2, -, -, -⟩ := (right_iff ss ps).1 hR
    have hh := half_le _ n2
    have HR : Hid (rightB ss ps = true) := hR
    clear hR
    go_wp2_with fail
    refine (half_impl _ _ _ _ _ n1 n2).mono ?_
    rintro e w2 ⟨rfl, hb2⟩
    go_wp2
    go_ret
    exact ⟨ret_int (by rw [room_yes HR.out]; omega), bel2 B1 hb2⟩
end Go.Proofs.YtfiabbfdnmldjaaGreatDoor.U0

/-
  The head's bytes, as the specification and as the program have them.
-/
namespace Go.Proofs.YtfiabbfdnmldjaaGreatDoor.U2
open Go.RowKit
open Go.Proofs.YtfiabbfdnmldjaaGreatDoor.C0 Go.Proofs.YtfiabbfdnmldjaaGreatDoor.C6 Go.Proofs.YtfiabbfdnmldjaaGreatDoor.S0 Go.Proofs.YtfiabbfdnmldjaaGreatDoor.O1

/-- What is sealed in a head. -/
def nums (g s z : Int) : List UInt8 := Mb.putNum g ++ Mb.putNum s ++ Mb.putNum z
def headL (g s z : Int) : List UInt8 := sealed (nums g s z)
def headB (g s z : Int) : ByteArray := ⟨(headL g s z).toArray⟩
theorem putNum_len (n : Int) : 1 ≤ (Mb.putNum n).length ∧ (Mb.putNum n).length ≤ 10 := Mb.leb_len 9 _
theorem nums_len (g s z : Int) : (nums g s z).length ≤ 30 := by
  have := (putNum_len g).2; have := (putNum_len s).2; have := (putNum_len z).2
  simp [nums]; omega
theorem head_size (g s z : Int) : (headB g s z).size ≤ 34 := by
  unfold headB
  rw [size_mk (headL g s z)]
  have := nums_len g s z
  simp [headL, sealed, four]; omega
theorem seal_nums (g s z : Int) : sealOf ⟨(nums g s z).toArray⟩ = headL g s z := by
  have h := nums_len g s z
  unfold sealOf
  rw [if_neg (by rw [size_mk (nums g s z)]; omega)]
  rfl
theorem join3 (g s z : Int) : (⟨(Mb.putNum g).toArray⟩ : ByteArray) ++ ⟨(Mb.putNum s).toArray⟩ ++ ⟨(Mb.putNum z).toArray⟩ = ⟨(nums g s z).toArray⟩ := by
  apply ByteArray.ext
  simp [ByteArray.data_append, nums]
def ok64 (n : Int) : Prop := -9223372036854775808 ≤ n ∧ n ≤ 9223372036854775807
theorem size_num (n : Int) : (⟨(Mb.putNum n).toArray⟩ : ByteArray).size ≤ 10 := by rw [size_mk (Mb.putNum n)]; exact (putNum_len n).2
set_option maxRecDepth 100000 in
set_option maxHeartbeats 800000 in
theorem head_spec (g s z : Int) (w : World) (hg : ok64 g) (hs : ok64 s) (hz : ok64 z) :
    Calls Tryz.prog 48 #[.int .i64 g, .int .i64 s, .int .i64 z] w fun e w' => e = .returned (.string (headB g s z)) ∧ Below w.heap.size w w' := by
  have z1 := size_num g
  have z2 := size_num s
  have z3 := size_num z
  have z4 := nums_len g s z
  have HJ : Hid _ := join3 g s z
  have HS : Hid _ := seal_nums g s z
  have hc1 : (⟨(Mb.putNum g).toArray⟩ : ByteArray).size + (⟨(Mb.putNum s).toArray⟩ : ByteArray).size ≤ 9223372036854775807 := by omega
  have hc2 : ((⟨(Mb.putNum g).toArray⟩ : ByteArray) ++ ⟨(Mb.putNum s).toArray⟩).size + (⟨(Mb.putNum z).toArray⟩ : ByteArray).size ≤ 9223372036854775807 := by rw [ByteArray.size_append]; omega
  go_enter Tryz.func48, Tryz.ntmps48
  go_wp2_with fail
  refine (C1.put_spec g _ hg.1 hg.2).mono ?_
  rintro e w1 ⟨rfl, hb1⟩
  go_wp2_with fail
  refine (C1.put_spec s _ hs.1 hs.2).mono ?_
  rintro e w2 ⟨rfl, hb2⟩
  go_wp2_with fail
  refine (C1.put_spec z _ hz.1 hz.2).mono ?_
  rintro e w3 ⟨rfl, hb3⟩
  go_wp2_with fail
  rw [HJ.out]
  refine (C6.seal_spec _ _ (by unfold maxLen; rw [size_mk (nums g s z)]; omega)).mono ?_
  rintro e w4 ⟨rfl, hb4⟩
  rw [HS.out]
  go_wp2
  go_ret
  exact ⟨rfl, bel2 (bel2 (bel2 hb1 hb2) hb3) hb4⟩
theorem put_any (n : Int) (w : World) (h : ok64 n) : Calls Tryz.prog 106 #[.int .i64 n] w fun e w' => e = .returned (.string ⟨(Mb.putNum n).toArray⟩) ∧ Below w.heap.size w w' := C1.put_impl n w h.1 h.2
theorem tot3 (g s z : Int) : C2.total [⟨(Mb.putNum g).toArray⟩, ⟨(Mb.putNum s).toArray⟩, ⟨(Mb.putNum z).toArray⟩] ≤ 1000000 := by
  have := size_num g; have := size_num s; have := size_num z
  simp only [C2.total]; omega
theorem cat3 (g s z : Int) : C2.cat [⟨(Mb.putNum g).toArray⟩, ⟨(Mb.putNum s).toArray⟩, ⟨(Mb.putNum z).toArray⟩] = nums g s z := by simp [C2.cat, nums]
theorem cat3_size (g s z : Int) : (⟨(C2.cat [⟨(Mb.putNum g).toArray⟩, ⟨(Mb.putNum s).toArray⟩, ⟨(Mb.putNum z).toArray⟩]).toArray⟩ : ByteArray).size ≤ maxLen := by
  rw [cat3, size_mk (nums g s z)]; have := nums_len g s z; unfold maxLen; omega
theorem cells3 (w : World) (a b c : ByteArray) : ∀ j, j < 3 → (w.alloc (.cells #[.string a, .string b, .string c] 9)).cell? ⟨w.heap.size, 0 + j, none⟩ = some (.string ([a, b, c].getD j ByteArray.empty)) := by
  intro j hj
  match j, hj with
  | 0, _ => simp [go_sem]
  | 1, _ => simp [go_sem]
  | 2, _ => simp [go_sem]
theorem kept3h {W w' : World} {g : Nat} {a b c : Value} {T : TypeId} (k : W.heap[g]? = some (.cells #[a, b, c] T)) (h : Below W.heap.size W w') : w'.cell? ⟨g, 0, none⟩ = some a ∧ w'.cell? ⟨g, 1, none⟩ = some b ∧ w'.cell? ⟨g, 2, none⟩ = some c :=
  ⟨(blk3 (carry k h)).1, (blk3 (carry k h)).2.1, (blk3 (carry k h)).2.2.1⟩
set_option maxRecDepth 100000 in
set_option maxHeartbeats 1600000 in
theorem head_impl (g s z : Int) (w : World) (hg : ok64 g) (hs : ok64 s) (hz : ok64 z) :
    Calls Tryz.prog 80 #[.agg #[.int .i64 g, .int .i64 s, .int .i64 z]] w fun e w' => e = .returned (.string (headB g s z)) ∧ Below w.heap.size w w' := by
  have z1 := size_num g
  have z2 := size_num s
  have z3 := size_num z
  have z4 := nums_len g s z
  have HS : Hid _ := seal_nums g s z
  have b0 := albel w (.cells #[.int .i64 g, .int .i64 s, .int .i64 z] 57)
  have k0 := heap_alloc_new w (.cells #[.int .i64 g, .int .i64 s, .int .i64 z] 57)
  go_enter Tryz.func80, Tryz.ntmps80
  go_wp2_with fail
  obtain ⟨W, hW⟩ : ∃ W, w.alloc (.cells #[.int .i64 g, .int .i64 s, .int .i64 z] 57) = W := ⟨_, rfl⟩
  rw [hW] at b0 k0 ⊢
  clear hW
  obtain ⟨q0, q1, q2, -, -⟩ := blk3 k0
  go_region_held3 (fun w' => w'.cell? ⟨w.heap.size, 0, none⟩ = some (.int .i64 g) ∧ w'.cell? ⟨w.heap.size, 1, none⟩ = some (.int .i64 s) ∧ w'.cell? ⟨w.heap.size, 2, none⟩ = some (.int .i64 z))
    (first
      | (with_reducible exact kept3h k0 BN)
      | (with_reducible exact kept3h k0 (Below.refl _ _).drew)
      | go_keep)
    (first
      | (go_at_call 106; refine (put_any _ _ (by assumption)).mono ?_; rintro e wn ⟨rfl, hbn⟩; have BN : Below W.heap.size W wn := (by first | exact bel2 BN hbn | exact undrew hbn))
      | (go_at_call 96; refine (C2.joined_any _ 0 3 3 [⟨(Mb.putNum g).toArray⟩, ⟨(Mb.putNum s).toArray⟩, ⟨(Mb.putNum z).toArray⟩] _ rfl (by simp) (by omega) (tot3 g s z) (cells3 _ _ _ _)).mono ?_; rintro e wn ⟨rfl, hbn⟩; have BN : Below W.heap.size W wn := bel2 BN (bel2 (albel _ _) hbn))
      | (go_at_call 95; refine (C6.seal_impl _ _ (cat3_size g s z)).mono ?_; rintro e wn ⟨rfl, hbn⟩; have BN : Below W.heap.size W wn := bel2 BN hbn))
  go_wp2
  go_ret
  exact ⟨by rw [cat3, HS.out]; rfl, bel2 b0 BN⟩
end Go.Proofs.YtfiabbfdnmldjaaGreatDoor.U2

/-
  What a call of this layer tells: a disk, a text, a number, a code; the laws' own comparing and marks of it; a refusal.
-/
namespace Go.Proofs.YtfiabbfdnmldjaaGreatDoor.U4
open Go.RowKit
open Go.Proofs.YtfiabbfdnmldjaaGreatDoor.C0 Go.Proofs.YtfiabbfdnmldjaaGreatDoor.S0 Go.Proofs.YtfiabbfdnmldjaaGreatDoor.S1 Go.Proofs.YtfiabbfdnmldjaaGreatDoor.S2 Go.Proofs.YtfiabbfdnmldjaaGreatDoor.S3 Go.Proofs.YtfiabbfdnmldjaaGreatDoor.S4 Go.Proofs.YtfiabbfdnmldjaaGreatDoor.S6 Go.Proofs.YtfiabbfdnmldjaaGreatDoor.Mk Go.Proofs.YtfiabbfdnmldjaaGreatDoor.O1 Go.Proofs.YtfiabbfdnmldjaaGreatDoor.T2 Go.Proofs.YtfiabbfdnmldjaaGreatDoor.T4 Go.Proofs.YtfiabbfdnmldjaaGreatDoor.T5
structure AOut where
  ss : List ByteArray
  ps : List Pend
  t : ByteArray
  g : Int
  k : Int
def illA (k : Int) : AOut := ⟨[], [], ⟨#[]⟩, 0, k⟩
abbrev ATold (w : World) (ss : List ByteArray) (ps : List Pend) (t : ByteArray) (g k : Int) (e : Ending) (w' : World) : Prop :=
  ∃ a c a' c', e = .returned (.agg #[.slice a ss.length c, .slice a' ps.length c', .string t, .int .i64 g, .int .i64 k]) ∧ ODisk w.heap.size w' (.slice a ss.length c) (.slice a' ps.length c') ss ps ∧ Below w.heap.size w w'
abbrev AT (w : World) (o : AOut) (e : Ending) (w' : World) : Prop := ATold w o.ss o.ps o.t o.g o.k e w'
theorem atold_alloc {w w' : World} {ss : List ByteArray} {ps : List Pend} {t : ByteArray} {g k : Int} {e : Ending} (h : ATold w ss ps t g k e w') (X : Obj) : ATold w ss ps t g k e (w'.alloc X) := by
  obtain ⟨a, c, a', c', e, ho, hb⟩ := h
  exact ⟨a, c, a', c', e, ho.below (albel _ _), bel2 hb (albel _ _)⟩
/-- Five cells of one block, stored one by one. -/
abbrev set5 (w : World) (g : Nat) (a b c d e : Value) : World := ((((w.setCell ⟨g, 0, none⟩ a).setCell ⟨g, 1, none⟩ b).setCell ⟨g, 2, none⟩ c).setCell ⟨g, 3, none⟩ d).setCell ⟨g, 4, none⟩ e
theorem set5_wrote (w : World) (g : Nat) (a b c d e : Value) : Wrote (fun k => k = g) w (set5 w g a b c d e) :=
  (((((Wrote.refl (fun k => k = g) w).setCell (p := ⟨g, 0, none⟩) (.inr rfl) a).setCell (p := ⟨g, 1, none⟩) (.inr rfl) b).setCell (p := ⟨g, 2, none⟩) (.inr rfl) c).setCell (p := ⟨g, 3, none⟩) (.inr rfl) d).setCell (p := ⟨g, 4, none⟩) (.inr rfl) e
theorem blk5 {w : World} {g : Nat} {a b c d f : Value} {T : TypeId} (h : w.heap[g]? = some (.cells #[a, b, c, d, f] T (0, 0))) : w.cell? ⟨g, 0, none⟩ = some a ∧ w.cell? ⟨g, 1, none⟩ = some b ∧ w.cell? ⟨g, 2, none⟩ = some c ∧ w.cell? ⟨g, 3, none⟩ = some d ∧ w.cell? ⟨g, 4, none⟩ = some f ∧ (∀ o, w.frozen? ⟨g, o, none⟩ = false) ∧ g < w.heap.size :=
  ⟨by simp [World.cell?, h], by simp [World.cell?, h], by simp [World.cell?, h], by simp [World.cell?, h], by simp [World.cell?, h], fun o => by simp [World.frozen?, h], (Array.getElem?_eq_some_iff.1 h).1⟩
theorem set5_at {w : World} {g : Nat} {x y z u v : Value} {T : TypeId} (h : w.heap[g]? = some (.cells #[x, y, z, u, v] T (0, 0))) (a b c d e : Value) : (set5 w g a b c d e).heap[g]? = some (.cells #[a, b, c, d, e] T (0, 0)) := by
  have h1 := heap_setCell_same w g 0 _ _ a h
  have h2 := heap_setCell_same _ g 1 _ _ b h1
  have h3 := heap_setCell_same _ g 2 _ _ c h2
  have h4 := heap_setCell_same _ g 3 _ _ d h3
  have h5 := heap_setCell_same _ g 4 _ _ e h4
  simpa using h5
theorem set5_read {w : World} {g : Nat} {x y z u v : Value} {T : TypeId} (h : w.heap[g]? = some (.cells #[x, y, z, u, v] T (0, 0))) (a b c d e : Value) (X : Obj) : ((set5 w g a b c d e).alloc X).cell? ⟨g, 0, none⟩ = some a ∧ ((set5 w g a b c d e).alloc X).cell? ⟨g, 1, none⟩ = some b ∧ ((set5 w g a b c d e).alloc X).cell? ⟨g, 2, none⟩ = some c ∧ ((set5 w g a b c d e).alloc X).cell? ⟨g, 3, none⟩ = some d ∧ ((set5 w g a b c d e).alloc X).cell? ⟨g, 4, none⟩ = some e := by
  obtain ⟨h0, h1, h2, h3, h4, -, -⟩ := blk5 (carryA (set5_at h a b c d e) X)
  exact ⟨h0, h1, h2, h3, h4⟩
/-- A disk that is told, the result's block below it. -/
theorem fin_area {w X : World} {a a' : Option Addr} {c c' B R : Nat} {ss : List ByteArray} {ps : List Pend} {t : ByteArray} {g k : Int} (h : Below w.heap.size w X) (ho : ODisk B X (.slice a ss.length c) (.slice a' ps.length c') ss ps) (hR : w.heap.size ≤ R) (hB : R < B) (p q r s u : Value) :
    ATold w ss ps t g k (.returned (.agg #[.slice a ss.length c, .slice a' ps.length c', .string t, .int .i64 g, .int .i64 k])) (set5 X R p q r s u) :=
  ⟨a, c, a', c', rfl, (ho.wrote (set5_wrote X R p q r s u) (fun x e h' => by have := (ho.rows x h').1; omega)).mono (by omega), belW h (set5_wrote X R p q r s u) (fun x e => by omega)⟩
theorem fin_illA {w X : World} {R : Nat} {k : Int} (h : Below w.heap.size w X) (hR : w.heap.size ≤ R) (p q r s u : Value) :
    AT w (illA k) (.returned (.agg #[.slice none 0 0, .slice none 0 0, .string ⟨#[]⟩, .int .i64 0, .int .i64 k])) (set5 X R p q r s u) :=
  ⟨none, 0, none, 0, rfl, ⟨World.ownsRow_nil _ _ _ _, World.ownsRow_nil _ _ _ _⟩, belW h (set5_wrote X R p q r s u) (fun x e => by omega)⟩
set_option maxRecDepth 100000 in
theorem ill_spec (k : Int) (w : World) : Calls Tryz.prog 40 #[.int .i64 k] w fun e w' => e = .returned (.agg #[.slice none 0 0, .slice none 0 0, .string ⟨#[]⟩, .int .i64 0, .int .i64 k]) ∧ Below w.heap.size w w' := by
  go_enter Tryz.func40, Tryz.ntmps40
  go_wp2
  exact bodyPost_ret (v := .agg #[.slice none 0 0, .slice none 0 0, .string ⟨#[]⟩, .int .i64 0, .int .i64 k]) (by simp [results, Tryz.results40, go_sem]) rfl ⟨rfl, albel _ _⟩
set_option maxRecDepth 100000 in
set_option maxHeartbeats 800000 in
theorem eqArea_any (vs vp us up : Value) (t : ByteArray) (g c : Int) (ss : List ByteArray) (ps : List Pend) (w : World) (h1 : Strs w vs ss) (h2 : Pends w vp ps) (h3 : Strs w us ss) (h4 : Pends w up ps) :
    Calls Tryz.prog 23 #[.agg #[vs, vp, .string t, .int .i64 g, .int .i64 c], .agg #[us, up, .string t, .int .i64 g, .int .i64 c]] w fun e w' => e = .returned (.bool true) ∧ Below w.heap.size w w' := by
  have hal : ∀ o1 o2 : Obj, Below w.heap.size w ((w.alloc o1).alloc o2) := fun o1 o2 => ((Below.refl _ _).alloc (Nat.le_refl _) _).alloc (by simp) _
  go_enter Tryz.func23, Tryz.ntmps23
  go_wp2_with (first
    | (go_at_call 24; refine (eqDisk_any _ _ _ _ ss ps _ (h1.below (hal _ _)) (h2.below (hal _ _)) (h3.below (hal _ _)) (h4.below (hal _ _))).mono ?_; rintro e w1 ⟨rfl, hb1⟩; obtain ⟨hc1, hf1⟩ := bcell hb1; have hB1 : Below w.heap.size w w1 := (hal _ _).trans (hb1.mono (hal _ _).size)))
  go_ret
  exact ⟨rfl, hB1⟩
set_option maxRecDepth 100000 in
set_option maxHeartbeats 800000 in
theorem heldArea_any (k n m : Nat) (vs vp : Value) (t : ByteArray) (g c : Int) (w : World) (hs : Strs w vs (marksS k n)) (hp : Pends w vp (marksP (k + n) m)) (h1 : 0 < k) (h2 : k + n + m * 2 < 10000000) :
    Calls Tryz.prog 27 #[.agg #[vs, vp, .string t, .int .i64 g, .int .i64 c], .int .i64 k] w fun e w' => e = .returned (.int .i64 ((k + n + m * 2 : Nat) : Int)) ∧ Below w.heap.size w w' := by
  have hal : ∀ o : Obj, Below w.heap.size w (w.alloc o) := fun o => (Below.refl _ _).alloc (Nat.le_refl _) _
  go_enter Tryz.func27, Tryz.ntmps27
  go_wp2_with (first
    | (go_at_call 65; refine (heldDisk_any k n m _ _ _ (hs.below (hal _)) (hp.below (hal _)) h1 h2).mono ?_; rintro e w1 ⟨rfl, hb1⟩; have hd2 : ¬ ((k + n + m * 2 : Nat) : Int) < 0 := (by omega)))
  go_ret
  exact ⟨rfl, (hal _).trans (hb1.mono (hal _).size)⟩
set_option maxRecDepth 100000 in
set_option maxHeartbeats 800000 in
theorem markArea_any (B k : Nat) (a a' : Option Addr) (cap cap' : Nat) (t : ByteArray) (g c : Int) (ss : List ByteArray) (ps : List Pend) (w : World) (hv : ODisk B w (.slice a ss.length cap) (.slice a' ps.length cap') ss ps) (h1 : 0 < k) (h2 : k + ss.length + ps.length * 2 < 10000000) :
    Calls Tryz.prog 26 #[.agg #[.slice a ss.length cap, .slice a' ps.length cap', .string t, .int .i64 g, .int .i64 c], .int .i64 k] w fun e w' => e = .returned (.int .i64 ((k + ss.length + ps.length * 2 : Nat) : Int)) ∧
      ODisk B w' (.slice a ss.length cap) (.slice a' ps.length cap') (marksS k ss.length) (marksP (k + ss.length) ps.length) ∧ Wrote (mines (.slice a ss.length cap) (.slice a' ps.length cap')) w w' := by
  have hal : ∀ o : Obj, Below w.heap.size w (w.alloc o) := fun o => (Below.refl _ _).alloc (Nat.le_refl _) _
  go_enter Tryz.func26, Tryz.ntmps26
  go_wp2_with (first
    | (go_at_call 25; refine (markDisk_any B k _ _ _ _ ss ps _ (hv.below (hal _)) h1 h2).mono ?_; rintro e w1 ⟨rfl, ho1, ht1⟩))
  go_ret
  exact ⟨rfl, ho1, (Wrote.of_below (hal _)).trans ht1⟩
end Go.Proofs.YtfiabbfdnmldjaaGreatDoor.U4

/-
  The head of a disk: what is got from the bytes of its first sector.
-/
namespace Go.Proofs.YtfiabbfdnmldjaaGreatDoor.U8
open Go.RowKit
open Go.Proofs.YtfiabbfdnmldjaaGreatDoor.C0 Go.Proofs.YtfiabbfdnmldjaaGreatDoor.C6 Go.Proofs.YtfiabbfdnmldjaaGreatDoor.C7 Go.Proofs.YtfiabbfdnmldjaaGreatDoor.CH Go.Proofs.YtfiabbfdnmldjaaGreatDoor.U0 Go.Proofs.YtfiabbfdnmldjaaGreatDoor.U2
open Go.Proofs.YtfiabbfdnmldjaaGreatDoor.Dk (Pend rightB right_iff readOf)
def codeU (x : ByteArray) : Int := if 8000 < x.size then 2 else if x.size < 4 then 4 else if okB x = true then 0 else 5
def textU (x : ByteArray) : ByteArray := if codeU x = 0 then body x else ⟨#[]⟩
theorem opened_eq (x : ByteArray) : opened x = out (textU x) (codeU x) := by
  unfold opened textU codeU
  split
  · simp
  · split
    · simp
    · split
      · simp
      · simp
abbrev rr (t : ByteArray) (a : Nat) : Nat × Nat × Nat := Mg.getFrom t a 10 0 0
def nOf (R : Nat × Nat × Nat) : Int := if R.2.2 = 0 then Mg.unfoldI R.1 else 0
def aOf (R : Nat × Nat × Nat) : Nat := if R.2.2 = 0 then R.2.1 else 0
theorem outV_eq (R : Nat × Nat × Nat) : outV R = numOut (nOf R) (aOf R) R.2.2 := by
  unfold outV nOf aOf
  split
  · rename_i h; rw [h]; rfl
  · rfl
abbrev R1 (t : ByteArray) := rr t 0
abbrev R2 (t : ByteArray) := rr t (aOf (R1 t))
abbrev R3 (t : ByteArray) := rr t (aOf (R2 t))
/-- What stands there is a head. -/
abbrev HeadP (x : ByteArray) (room : Nat) : Prop :=
  (R1 (body x)).2.2 = 0 ∧ (R2 (body x)).2.2 = 0 ∧ (R3 (body x)).2.2 = 0 ∧ headB (nOf (R1 (body x))) (nOf (R2 (body x))) (nOf (R3 (body x))) = x ∧ 0 ≤ nOf (R1 (body x)) ∧ (0 ≤ nOf (R2 (body x)) ∧ nOf (R2 (body x)) ≤ 1) ∧ 0 ≤ nOf (R3 (body x)) ∧ nOf (R3 (body x)) ≤ room
def HeadOk (x : ByteArray) (room : Nat) : Prop := HeadP x room
def headDec (x : ByteArray) (room : Nat) : Decidable (HeadOk x room) := if h : HeadP x room then .isTrue h else .isFalse h
/-- The number, the side, how many bytes, and the code. -/
def seenR (x : ByteArray) (room : Nat) : Int × Int × Int × Int :=
  if codeU x = 0 then (@ite _ (HeadOk x room) (headDec x room) (nOf (R1 (body x)), nOf (R2 (body x)), nOf (R3 (body x)), 0) (0, 0, 0, 3)) else (0, 0, 0, codeU x)
theorem size_list (s : ByteArray) : s.data.toList.length = s.size := Array.length_toList
theorem ba_ext {a b : ByteArray} (h : a.data.toList = b.data.toList) : a = b := by
  apply ByteArray.ext
  apply Array.ext'
  exact h
/-- The numbers are got and nothing is behind them, just where the head's bytes are those of the numbers. -/
theorem head_end {x : ByteArray} (hx : codeU x = 0) (h1 : (R1 (body x)).2.2 = 0) (h2 : (R2 (body x)).2.2 = 0) (h3 : (R3 (body x)).2.2 = 0) :
    headB (nOf (R1 (body x))) (nOf (R2 (body x))) (nOf (R3 (body x))) = x ↔ aOf (R3 (body x)) = (body x).size := by
  have hx1 : ¬ x.size < 4 ∧ okB x = true := by
    unfold codeU at hx
    split at hx
    · simp at hx
    · split at hx
      · simp at hx
      · split at hx
        · exact ⟨by assumption, by assumption⟩
        · simp at hx
  obtain ⟨h4, hok⟩ := hx1
  have hxl : x.data.toList = (body x).data.toList ++ four (Mc.crcMore 0 (body x).data.toList) := by
    unfold okB at hok
    rw [beq_iff_eq] at hok
    have e := body_data x
    unfold body
    rw [e, hok, List.take_append_drop]
  have g1 : R1 (body x) = ((R1 (body x)).1, (R1 (body x)).2.1, 0) := by rw [← h1]
  have g2 : R2 (body x) = ((R2 (body x)).1, (R2 (body x)).2.1, 0) := by rw [← h2]
  have g3 : R3 (body x) = ((R3 (body x)).1, (R3 (body x)).2.1, 0) := by rw [← h3]
  have a1 : aOf (R1 (body x)) = (R1 (body x)).2.1 := by unfold aOf; rw [if_pos h1]
  have a2 : aOf (R2 (body x)) = (R2 (body x)).2.1 := by unfold aOf; rw [if_pos h2]
  have a3 : aOf (R3 (body x)) = (R3 (body x)).2.1 := by unfold aOf; rw [if_pos h3]
  have n1 : nOf (R1 (body x)) = Mg.unfoldI (R1 (body x)).1 := by unfold nOf; rw [if_pos h1]
  have n2 : nOf (R2 (body x)) = Mg.unfoldI (R2 (body x)).1 := by unfold nOf; rw [if_pos h2]
  have n3 : nOf (R3 (body x)) = Mg.unfoldI (R3 (body x)).1 := by unfold nOf; rw [if_pos h3]
  obtain ⟨d1, l1, s1, -, -⟩ := Mn.get_inv g1
  obtain ⟨d2, l2, s2, -, -⟩ := Mn.get_inv g2
  obtain ⟨d3, l3, s3, -, -⟩ := Mn.get_inv g3
  rw [← n1, ← a1] at d1 l1
  rw [← n2, ← a2] at d2 l2
  rw [← n3, ← a3] at d3 l3
  have hd : (body x).data.toList = nums (nOf (R1 (body x))) (nOf (R2 (body x))) (nOf (R3 (body x))) ++ (body x).data.toList.drop (aOf (R3 (body x))) := by
    rw [List.drop_zero, d2, d3] at d1
    simp only [nums, List.append_assoc]
    exact d1
  have hlen : (nums (nOf (R1 (body x))) (nOf (R2 (body x))) (nOf (R3 (body x)))).length = aOf (R3 (body x)) := by
    simp only [nums, List.length_append]; omega
  generalize nOf (R1 (body x)) = m1 at *
  generalize nOf (R2 (body x)) = m2 at *
  generalize nOf (R3 (body x)) = m3 at *
  constructor
  · intro h
    have e : headL m1 m2 m3 = x.data.toList := by rw [← h]; rfl
    have e2 := congrArg List.length e
    have e3 := congrArg List.length hxl
    rw [size_list] at e2
    simp only [headL, sealed, List.length_append, four, List.length_cons, List.length_nil] at e2 e3
    rw [size_list, size_list] at e3
    omega
  · intro h
    have e : (body x).data.toList.drop (aOf (R3 (body x))) = [] := by
      rw [List.drop_eq_nil_iff, size_list, h]; exact Nat.le_refl _
    rw [e, List.append_nil] at hd
    apply ba_ext
    rw [hxl, hd]
    rfl
theorem readOf_size {t : ByteArray} {n : Nat} (i : Int) : ∀ (ps : List Pend), t.size ≤ n → (∀ p ∈ ps, p.2.size ≤ n) → (readOf t ps i).size ≤ n := by
  intro ps
  induction ps generalizing t with
  | nil => intro h _; exact h
  | cons p ps ih =>
    intro h hp
    show (readOf (if p.1 = i then p.2 else t) ps i).size ≤ n
    refine ih ?_ (fun q hq => hp q (by simp [hq]))
    split
    · exact hp p (by simp)
    · exact h
/-- What the first sector of a right disk reads as. -/
def zeroth (ss : List ByteArray) (ps : List Pend) : ByteArray := readOf (ss.getD 0 ⟨#[]⟩) ps 0
theorem zeroth_size {ss : List ByteArray} {ps : List Pend} (h : rightB ss ps = true) : (zeroth ss ps).size ≤ 64 := by
  obtain ⟨h1, h2, h3, h4, h5⟩ := (right_iff ss ps).1 h
  refine readOf_size 0 ps ?_ (fun p hp => (h5 p hp).2.2)
  rw [List.getD_eq_getElem?_getD, List.getElem?_eq_getElem (by omega)]
  exact h4 _ (List.getElem_mem _)
theorem zeroth_read {ss : List ByteArray} {ps : List Pend} (h : rightB ss ps = true) : Dk.readR ss ps 0 = ⟨ss, ps, zeroth ss ps, 0⟩ := by
  obtain ⟨h1, h2, h3, h4, h5⟩ := (right_iff ss ps).1 h
  unfold Dk.readR zeroth
  rw [if_neg (by rw [h]; simp), if_pos ⟨by omega, by omega⟩]
  rfl
end Go.Proofs.YtfiabbfdnmldjaaGreatDoor.U8
