/-
  The head's bytes, as the specification and as the program have them.
-/
import Derived.Test.YtfiabbfdnmldjaaDoorC6
import Derived.Test.YtfiabbfdnmldjaaDoorC1
import Derived.Test.YtfiabbfdnmldjaaDoorO1
import Derived.Deep.RegionHeld3
namespace Go.Proofs.YtfiabbfdnmldjaaDoor.U2
open Go.RowKit
open Go.Proofs.YtfiabbfdnmldjaaDoor.C0 Go.Proofs.YtfiabbfdnmldjaaDoor.C6 Go.Proofs.YtfiabbfdnmldjaaDoor.S0 Go.Proofs.YtfiabbfdnmldjaaDoor.O1

/-- What is sealed in a head. -/
def nums (g s z : Int) : List UInt8 := Mb.putNum g ++ Mb.putNum s ++ Mb.putNum z
def headL (g s z : Int) : List UInt8 := sealed (nums g s z)
def headB (g s z : Int) : ByteArray := ⟨(headL g s z).toArray⟩
theorem putNum_len (n : Int) : 1 ≤ (Mb.putNum n).length ∧ (Mb.putNum n).length ≤ 10 := Mb.leb_len 9 _
theorem nums_len (g s z : Int) : (nums g s z).length ≤ 30 := by
  have := (putNum_len g).2; have := (putNum_len s).2; have := (putNum_len z).2
  simp [nums]; omega
theorem head_size (g s z : Int) : (headB g s z).size ≤ 34 := by
  unfold headB
  rw [size_mk (headL g s z)]
  have := nums_len g s z
  simp [headL, sealed, four]; omega
theorem seal_nums (g s z : Int) : sealOf ⟨(nums g s z).toArray⟩ = headL g s z := by
  have h := nums_len g s z
  unfold sealOf
  rw [if_neg (by rw [size_mk (nums g s z)]; omega)]
  rfl
theorem join3 (g s z : Int) : (⟨(Mb.putNum g).toArray⟩ : ByteArray) ++ ⟨(Mb.putNum s).toArray⟩ ++ ⟨(Mb.putNum z).toArray⟩ = ⟨(nums g s z).toArray⟩ := by
  apply ByteArray.ext
  simp [ByteArray.data_append, nums]
def ok64 (n : Int) : Prop := -9223372036854775808 ≤ n ∧ n ≤ 9223372036854775807
theorem size_num (n : Int) : (⟨(Mb.putNum n).toArray⟩ : ByteArray).size ≤ 10 := by rw [size_mk (Mb.putNum n)]; exact (putNum_len n).2
set_option maxRecDepth 100000 in
set_option maxHeartbeats 800000 in
theorem head_spec (g s z : Int) (w : World) (hg : ok64 g) (hs : ok64 s) (hz : ok64 z) :
    Calls Tryd.prog 21 #[.int .i64 g, .int .i64 s, .int .i64 z] w fun e w' => e = .returned (.string (headB g s z)) ∧ Below w.heap.size w w' := by
  have z1 := size_num g
  have z2 := size_num s
  have z3 := size_num z
  have z4 := nums_len g s z
  have HJ : Hid _ := join3 g s z
  have HS : Hid _ := seal_nums g s z
  have hc1 : (⟨(Mb.putNum g).toArray⟩ : ByteArray).size + (⟨(Mb.putNum s).toArray⟩ : ByteArray).size ≤ 9223372036854775807 := by omega
  have hc2 : ((⟨(Mb.putNum g).toArray⟩ : ByteArray) ++ ⟨(Mb.putNum s).toArray⟩).size + (⟨(Mb.putNum z).toArray⟩ : ByteArray).size ≤ 9223372036854775807 := by rw [ByteArray.size_append]; omega
  go_enter Tryd.func21, Tryd.ntmps21
  go_wp2_with fail
  refine (C1.put_spec g _ hg.1 hg.2).mono ?_
  rintro e w1 ⟨rfl, hb1⟩
  go_wp2_with fail
  refine (C1.put_spec s _ hs.1 hs.2).mono ?_
  rintro e w2 ⟨rfl, hb2⟩
  go_wp2_with fail
  refine (C1.put_spec z _ hz.1 hz.2).mono ?_
  rintro e w3 ⟨rfl, hb3⟩
  go_wp2_with fail
  rw [HJ.out]
  refine (C6.seal_spec _ _ (by unfold maxLen; rw [size_mk (nums g s z)]; omega)).mono ?_
  rintro e w4 ⟨rfl, hb4⟩
  rw [HS.out]
  go_wp2
  go_ret
  exact ⟨rfl, bel2 (bel2 (bel2 hb1 hb2) hb3) hb4⟩
theorem put_any (n : Int) (w : World) (h : ok64 n) : Calls Tryd.prog 74 #[.int .i64 n] w fun e w' => e = .returned (.string ⟨(Mb.putNum n).toArray⟩) ∧ Below w.heap.size w w' := C1.put_impl n w h.1 h.2
theorem tot3 (g s z : Int) : C2.total [⟨(Mb.putNum g).toArray⟩, ⟨(Mb.putNum s).toArray⟩, ⟨(Mb.putNum z).toArray⟩] ≤ 1000000 := by
  have := size_num g; have := size_num s; have := size_num z
  simp only [C2.total]; omega
theorem cat3 (g s z : Int) : C2.cat [⟨(Mb.putNum g).toArray⟩, ⟨(Mb.putNum s).toArray⟩, ⟨(Mb.putNum z).toArray⟩] = nums g s z := by simp [C2.cat, nums]
theorem cat3_size (g s z : Int) : (⟨(C2.cat [⟨(Mb.putNum g).toArray⟩, ⟨(Mb.putNum s).toArray⟩, ⟨(Mb.putNum z).toArray⟩]).toArray⟩ : ByteArray).size ≤ maxLen := by
  rw [cat3, size_mk (nums g s z)]; have := nums_len g s z; unfold maxLen; omega
theorem cells3 (w : World) (a b c : ByteArray) : ∀ j, j < 3 → (w.alloc (.cells #[.string a, .string b, .string c] 9)).cell? ⟨w.heap.size, 0 + j, none⟩ = some (.string ([a, b, c].getD j ByteArray.empty)) := by
  intro j hj
  match j, hj with
  | 0, _ => simp [go_sem]
  | 1, _ => simp [go_sem]
  | 2, _ => simp [go_sem]
theorem kept3h {W w' : World} {g : Nat} {a b c : Value} {T : TypeId} (k : W.heap[g]? = some (.cells #[a, b, c] T)) (h : Below W.heap.size W w') : w'.cell? ⟨g, 0, none⟩ = some a ∧ w'.cell? ⟨g, 1, none⟩ = some b ∧ w'.cell? ⟨g, 2, none⟩ = some c :=
  ⟨(blk3 (carry k h)).1, (blk3 (carry k h)).2.1, (blk3 (carry k h)).2.2.1⟩
set_option maxRecDepth 100000 in
set_option maxHeartbeats 1600000 in
theorem head_impl (g s z : Int) (w : World) (hg : ok64 g) (hs : ok64 s) (hz : ok64 z) :
    Calls Tryd.prog 48 #[.agg #[.int .i64 g, .int .i64 s, .int .i64 z]] w fun e w' => e = .returned (.string (headB g s z)) ∧ Below w.heap.size w w' := by
  have z1 := size_num g
  have z2 := size_num s
  have z3 := size_num z
  have z4 := nums_len g s z
  have HS : Hid _ := seal_nums g s z
  have b0 := albel w (.cells #[.int .i64 g, .int .i64 s, .int .i64 z] 66)
  have k0 := heap_alloc_new w (.cells #[.int .i64 g, .int .i64 s, .int .i64 z] 66)
  go_enter Tryd.func48, Tryd.ntmps48
  go_wp2_with fail
  obtain ⟨W, hW⟩ : ∃ W, w.alloc (.cells #[.int .i64 g, .int .i64 s, .int .i64 z] 66) = W := ⟨_, rfl⟩
  rw [hW] at b0 k0 ⊢
  clear hW
  obtain ⟨q0, q1, q2, -, -⟩ := blk3 k0
  go_region_held3 (fun w' => w'.cell? ⟨w.heap.size, 0, none⟩ = some (.int .i64 g) ∧ w'.cell? ⟨w.heap.size, 1, none⟩ = some (.int .i64 s) ∧ w'.cell? ⟨w.heap.size, 2, none⟩ = some (.int .i64 z))
    (first
      | (with_reducible exact kept3h k0 BN)
      | (with_reducible exact kept3h k0 (Below.refl _ _).drew)
      | go_keep)
    (first
      | (go_at_call 74; refine (put_any _ _ (by assumption)).mono ?_; rintro e wn ⟨rfl, hbn⟩; have BN : Below W.heap.size W wn := (by first | exact bel2 BN hbn | exact undrew hbn))
      | (go_at_call 73; refine (C2.joined_any _ 0 3 3 [⟨(Mb.putNum g).toArray⟩, ⟨(Mb.putNum s).toArray⟩, ⟨(Mb.putNum z).toArray⟩] _ rfl (by simp) (by omega) (tot3 g s z) (cells3 _ _ _ _)).mono ?_; rintro e wn ⟨rfl, hbn⟩; have BN : Below W.heap.size W wn := bel2 BN (bel2 (albel _ _) hbn))
      | (go_at_call 72; refine (C6.seal_impl _ _ (cat3_size g s z)).mono ?_; rintro e wn ⟨rfl, hbn⟩; have BN : Below W.heap.size W wn := bel2 BN hbn))
  go_wp2
  go_ret
  exact ⟨by rw [cat3, HS.out]; rfl, bel2 b0 BN⟩
end Go.Proofs.YtfiabbfdnmldjaaDoor.U2
