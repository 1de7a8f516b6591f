/-
  What Seal and Unseal answer, in the specification and in the program.
-/
import Derived.Test.YtgmejbnolfmcdabC2
import Derived.Test.YtgmejbnolfmcdabC5
import Derived.Deep.OwnRows
import Derived.Handy
namespace Go.Proofs.Ytgmejbnolfmcdab.C6
open Go.RowKit
open Go.Proofs.Ytgmejbnolfmcdab.C0

/-- The four bytes of a number, the lowest first. -/
def four (n : Nat) : List UInt8 := [UInt8.ofNat n, UInt8.ofNat (n / 256), UInt8.ofNat (n / 65536), UInt8.ofNat (n / 16777216)]
def sealed (l : List UInt8) : List UInt8 := l ++ four (Mc.crcMore 0 l)
/-- What Seal answers. -/
def sealOf (s : ByteArray) : List UInt8 := if 7996 < s.size then [] else sealed s.data.toList

theorem owns_lit (base : Nat) (w : World) (l : List UInt8) (cs : Array Value) (n : Nat) (hb : base ≤ w.heap.size) (hn : l.length = n) (hm : n ≤ maxLen) (hc : cs.toList = (Mb.cells l).map (Value.int .u8)) :
    owns base (.slice (some ⟨w.heap.size, 0, none⟩) n n) l (w.alloc (.cells cs 5)) := by
  subst hn
  unfold owns
  rw [← hc]
  refine World.ownsRow_lit w cs l.length hb hm ?_
  have := congrArg List.length hc
  simpa [Mb.cells] using this

theorem four_cells (n : Nat) (hn : n < 4294967296) :
    [Value.int .u8 ((n : Int) % 256), .int .u8 ((n : Int) / 256 % 256), .int .u8 ((n : Int) / 65536 % 256), .int .u8 ((n : Int) / 16777216)] = (Mb.cells (four n)).map (Value.int .u8) := by
  simp only [Mb.cells, four, List.map_cons, List.map_nil, UInt8.toNat_ofNat', List.cons.injEq, Value.int.injEq, and_true, true_and]
  omega
theorem four_cells' (n : Nat) (hn : n < 4294967296) :
    [Value.int .u8 ((n : Int) % 256), .int .u8 ((n : Int) / 256 % 256), .int .u8 ((n : Int) / 256 / 256 % 256), .int .u8 ((n : Int) / 256 / 256 / 256)] = (Mb.cells (four n)).map (Value.int .u8) := by
  rw [← four_cells n hn]
  simp only [List.cons.injEq, Value.int.injEq, and_true, true_and]
  omega

set_option maxRecDepth 100000 in
theorem four_spec (n : Nat) (w : World) (hn : n < 4294967296) :
    Calls Try.prog 34 #[.int .i64 n] w fun e w' => e = .returned (.string ⟨(four n).toArray⟩) ∧ Below w.heap.size w w' := by
  have hconv := conv_own (owns_lit w.heap.size w (four n) #[Value.int .u8 ((n : Int) % 256), .int .u8 ((n : Int) / 256 % 256), .int .u8 ((n : Int) / 65536 % 256), .int .u8 ((n : Int) / 16777216)] 4 (Nat.le_refl _) rfl (by decide) (four_cells n hn))
  go_enter Try.func34, Try.ntmps34
  go_wp2
  go_ret
  exact ⟨rfl, (Below.refl _ _).alloc (Nat.le_refl _) _⟩

theorem size_mk (l : List UInt8) : (⟨l.toArray⟩ : ByteArray).size = l.length := by simp [ByteArray.size]
theorem join_text (s : ByteArray) (a : List UInt8) : s ++ (⟨a.toArray⟩ : ByteArray) = ⟨(s.data.toList ++ a).toArray⟩ := by
  apply ByteArray.ext
  simp [ByteArray.data_append]
theorem seal_no {s : ByteArray} (h : 7996 < s.size) : sealOf s = [] := by simp [sealOf, h]
theorem seal_yes {s : ByteArray} (h : ¬ 7996 < s.size) : sealOf s = s.data.toList ++ four (Mc.crcMore 0 s.data.toList) := by simp [sealOf, sealed, h]

set_option maxRecDepth 100000 in
theorem seal_spec (s : ByteArray) (w : World) (hs : s.size ≤ maxLen) :
    Calls Try.prog 14 #[.string s] w fun e w' => e = .returned (.string ⟨(sealOf s).toArray⟩) ∧ Below w.heap.size w w' := by
  unfold maxLen at hs
  by_cases h : 7996 < s.size
  · rw [seal_no h]
    go_enter Try.func14, Try.ntmps14
    go_wp2
    go_ret
    exact ⟨rfl, Below.refl _ _⟩
  · have HS : Hid (sealOf s = s.data.toList ++ four (Mc.crcMore 0 s.data.toList)) := seal_yes h
    have hlt := Mc.crcMore_lt 0 s.data.toList (by omega)
    have hcc : s.size + (⟨(four (Mc.crcMore 0 s.data.toList)).toArray⟩ : ByteArray).size ≤ 9223372036854775807 := by rw [size_mk (four _)]; simp [four]; omega
    go_enter Try.func14, Try.ntmps14
    go_wp2_with fail
    refine (C5.crc_spec 0 s _ (by omega) (by omega)).mono ?_
    rintro e w1 ⟨rfl, rfl⟩
    go_wp2_with fail
    refine (four_spec _ _ hlt).mono ?_
    rintro e w1 ⟨rfl, hb1⟩
    go_wp2
    go_ret
    exact ⟨by rw [HS.out, ← join_text]; rfl, hb1⟩

theorem made4 (w : World) : (Instr.makeSlice 67 (.int .i64 4) (.int .i64 4)).run Try.prog w = .ok (.slice (some ⟨w.heap.size, 0, none⟩) 4 4) (w.alloc (.cells #[.int .u8 0, .int .u8 0, .int .u8 0, .int .u8 0] 5)) := by kernel_rfl

set_option maxRecDepth 100000 in
set_option maxHeartbeats 800000 in
theorem seal_impl (s : ByteArray) (w : World) (hs : s.size ≤ maxLen) :
    Calls Try.prog 19 #[.string s] w fun e w' => e = .returned (.string ⟨(sealOf s).toArray⟩) ∧ Below w.heap.size w w' := by
  have hs' := hs
  unfold maxLen at hs
  by_cases h : 7996 < s.size
  · rw [seal_no h]
    go_enter Try.func19, Try.ntmps19
    go_wp2
    go_ret
    exact ⟨rfl, Below.refl _ _⟩
  · have HS : Hid (sealOf s = s.data.toList ++ four (Mc.crcMore 0 s.data.toList)) := seal_yes h
    have hcr : Hid (C5.crc s = Mc.crcMore 0 s.data.toList) := by unfold Hid C5.crc; rw [if_neg (by omega)]
    have hlt := Mc.crcMore_lt 0 s.data.toList (by omega)
    have hmk := made4
    go_enter Try.func19, Try.ntmps19
    go_wp2_with fail
    refine (C5.only_impl s _ hs').mono ?_
    rintro e w1 ⟨rfl, rfl⟩
    rw [hcr.out]
    clear hcr
    generalize Mc.crcMore 0 s.data.toList = n at *
    have hconv := conv_own (owns_lit w.heap.size w (four n) #[Value.int .u8 ((n : Int) % 256), .int .u8 ((n : Int) / 256 % 256), .int .u8 ((n : Int) / 256 / 256 % 256), .int .u8 ((n : Int) / 256 / 256 / 256)] 4 (Nat.le_refl _) rfl (by decide) (four_cells' n hlt))
    go_wp2_with fail
    refine wp_loop_rounds 5 ?_
    iterate 5 (rw [rounds_succ]; go_wp2_with fail)
    refine (C2.joined_any (w.heap.size + 1) 0 2 2 [s, ⟨(four n).toArray⟩] _ rfl (by simp) (by omega) ?_ ?_).mono ?_
    · show s.size + ((⟨(four n).toArray⟩ : ByteArray).size + 0) ≤ 1000000
      rw [size_mk (four n)]; simp [four]; omega
    · intro j hj
      match j, hj with
      | 0, _ => go_simp
      | 1, _ => go_simp
    rintro e w2 ⟨rfl, hb2⟩
    go_wp2
    go_ret
    refine ⟨?_, (((Below.refl _ _).alloc (Nat.le_refl _) _).alloc (by simp) _).trans (hb2.mono (by simp; omega))⟩
    rw [HS.out]; simp [C2.cat]
end Go.Proofs.Ytgmejbnolfmcdab.C6
