/-
  What a signature is bound by, as a closure of the program.
-/
import Derived.Test.YthmlkbgnooahlaaDoorH2
import Derived.Test.YthmlkbgnooahlaaDoorMG
import Derived.Test.YthmlkbgnooahlaaDoorC2
import Derived.Test.YthmlkbgnooahlaaDoorHB
import Derived.Deep.RegionHeld3
namespace Go.Proofs.YthmlkbgnooahlaaDoor.H3
open Go.RowKit
open Go.Proofs.YthmlkbgnooahlaaDoor.C0
open Go.Proofs.YthmlkbgnooahlaaDoor.HB
open Go.Proofs.YthmlkbgnooahlaaDoor.K2 (Laid)
open Go.Proofs.YthmlkbgnooahlaaDoor.K3 (bytesOf)
open Go.Proofs.YthmlkbgnooahlaaDoor.G1 (of_length of_mk size_mk)

def ok64 (n : Int) : Prop := -9223372036854775808 ≤ n ∧ n ≤ 9223372036854775807
theorem size_num (n : Int) : (⟨(Mb.putNum n).toArray⟩ : ByteArray).size ≤ 10 := by rw [size_mk (Mb.putNum n)]; exact (Mb.leb_len 9 _).2
theorem put_any (n : Int) (w : World) (h : ok64 n) : Calls Tryd.prog 32 #[.int .i64 n] w fun e w' => e = .returned (.string ⟨(Mb.putNum n).toArray⟩) ∧ Below w.heap.size w w' := C1.put_impl n w h.1 h.2
theorem tot3 (r y : Int) (t : ByteArray) (h : t.size ≤ 8000) : C2.total [⟨(Mb.putNum r).toArray⟩, ⟨(Mb.putNum y).toArray⟩, t] ≤ 1000000 := by
  have := size_num r; have := size_num y
  simp only [C2.total]; omega
theorem cat3 (r y : Int) (t : ByteArray) : C2.cat [⟨(Mb.putNum r).toArray⟩, ⟨(Mb.putNum y).toArray⟩, t] = Mb.putNum r ++ Mb.putNum y ++ bytesOf t := by simp [C2.cat]
theorem cat3_size (r y : Int) (t : ByteArray) (h : t.size ≤ 8000) : (⟨(C2.cat [⟨(Mb.putNum r).toArray⟩, ⟨(Mb.putNum y).toArray⟩, t]).toArray⟩ : ByteArray).size ≤ maxLen := by
  rw [size_mk, C2.cat_length]
  have := tot3 r y t h
  unfold maxLen; omega
theorem cells3 (w : World) (a b c : ByteArray) : ∀ j, j < 3 → (w.alloc (.cells #[.string a, .string b, .string c] 9)).cell? ⟨w.heap.size, 0 + j, none⟩ = some (.string ([a, b, c].getD j ByteArray.empty)) := by
  intro j hj
  match j, hj with
  | 0, _ => simp [go_sem]
  | 1, _ => simp [go_sem]
  | 2, _ => simp [go_sem]
theorem cells2 (w : World) (a b : ByteArray) : ∀ j, j < 2 → (w.alloc (.cells #[.string a, .string b] 9)).cell? ⟨w.heap.size, 0 + j, none⟩ = some (.string ([a, b].getD j ByteArray.empty)) := by
  intro j hj
  match j, hj with
  | 0, _ => simp [go_sem]
  | 1, _ => simp [go_sem]
theorem kept11 {W w' : World} {g1 g2 : Nat} {a b : Value} {T1 T2 : TypeId} (k1 : W.heap[g1]? = some (.cells #[a] T1)) (k2 : W.heap[g2]? = some (.cells #[b] T2)) (h : Below W.heap.size W w') :
    w'.cell? ⟨g1, 0, none⟩ = some a ∧ w'.cell? ⟨g2, 0, none⟩ = some b :=
  ⟨block_cell (carry k1 h) 0, block_cell (carry k2 h) 0⟩

set_option maxRecDepth 100000 in
set_option maxHeartbeats 1600000 in
theorem bound_impl (r y : Int) (t : ByteArray) (g1 g2 : Nat) (w : World) (hr : ok64 r) (hy : ok64 y) (ht : t.size ≤ 8000) (k1 : w.heap[g1]? = some (.cells #[.int .i64 y] 2)) (k2 : w.heap[g2]? = some (.cells #[.string t] 9)) (hL : Laid w) :
    Calls Tryd.prog 49 #[.int .i64 r, .pointer (some ⟨g1, 0, none⟩), .pointer (some ⟨g2, 0, none⟩)] w fun e w' => e = .returned (.int .i64 (Sg.hashR (Mb.putNum r ++ Mb.putNum y ++ bytesOf t) 5003 : Nat)) ∧ Below w.heap.size w w' := by
  obtain ⟨q1, q2⟩ := kept11 k1 k2 (Below.refl _ _)
  go_enter Tryd.func49, Tryd.ntmps49
  go_wp2_with fail
  go_region_held3 (fun w' => w'.cell? ⟨g1, 0, none⟩ = some (.int .i64 y) ∧ w'.cell? ⟨g2, 0, none⟩ = some (.string t))
    (first
      | (with_reducible exact kept11 k1 k2 BN)
      | (with_reducible exact kept11 k1 k2 (Below.refl _ _).drew)
      | go_keep)
    (first
      | (go_at_call 32; refine (put_any _ _ (by assumption)).mono ?_; rintro e wn ⟨rfl, hbn⟩; have BN : Below w.heap.size w wn := (by first | exact bel2 BN hbn | exact undrew hbn))
      | (go_at_call 31; refine (C2.joined_any _ 0 3 3 [⟨(Mb.putNum r).toArray⟩, ⟨(Mb.putNum y).toArray⟩, t] _ rfl (by simp) (by omega) (tot3 r y t ht) (cells3 _ _ _ _)).mono ?_; rintro e wn ⟨rfl, hbn⟩; have BN : Below w.heap.size w wn := bel2 BN (bel2 (albel _ _) hbn))
      | (go_at_call 15; refine (H2.hashto_impl _ 5003 _ (cat3_size r y t ht) (hL.below BN)).mono ?_; rintro e wn ⟨rfl, hbn⟩; have BN : Below w.heap.size w wn := bel2 BN hbn))
  go_wp2
  go_ret
  exact ⟨by rw [of_mk, cat3]; rfl, BN⟩

/-- The closure, and the two cells that it holds. -/
def boundV (g : Nat) : Value := .func (.func 49) #[] #[.pointer (some ⟨g, 0, none⟩), .pointer (some ⟨g + 1, 0, none⟩)]
set_option maxRecDepth 100000 in
theorem by_impl (y : Int) (t : ByteArray) (w : World) :
    Calls Tryd.prog 33 #[.int .i64 y, .string t] w fun e w' => e = .returned (boundV w.heap.size) ∧ Below w.heap.size w w' ∧ w'.heap[w.heap.size]? = some (.cells #[.int .i64 y] 2) ∧ w'.heap[w.heap.size + 1]? = some (.cells #[.string t] 9) := by
  have B : Below w.heap.size w ((w.alloc (.cells #[.int .i64 y] 2)).alloc (.cells #[.string t] 9)) := ((Below.refl _ _).alloc (Nat.le_refl _) _).alloc (by rw [asz]; omega) _
  have k1 := carryA (heap_alloc_new w (.cells #[.int .i64 y] 2)) (.cells #[.string t] 9)
  have k2 := heap_alloc_new (w.alloc (.cells #[.int .i64 y] 2)) (.cells #[.string t] 9)
  rw [asz] at k2
  go_enter Tryd.func33, Tryd.ntmps33
  go_wp2
  go_ret
  exact ⟨rfl, B, k1, k2⟩
end Go.Proofs.YthmlkbgnooahlaaDoor.H3
