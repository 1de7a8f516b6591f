/-
  The state as the digest's bytes, and the digest of a text, as the program makes them.
-/
import Derived.Test.YtkpjdmmgdmbmnabDoorK2
import Derived.Test.YtkpjdmmgdmbmnabDoorK3
import Derived.Test.YtkpjdmmgdmbmnabDoorC2
namespace Go.Proofs.YtkpjdmmgdmbmnabDoor.K4
open Go.RowKit
open Go.Proofs.YtkpjdmmgdmbmnabDoor.C0
open Go.Proofs.YtkpjdmmgdmbmnabDoor.K1 (num)
open Go.Proofs.YtkpjdmmgdmbmnabDoor.K2 (stCells Laid)
open Go.Deep (blk_alloc_lt blk_alloc_new nblk_alloc)

theorem cell_four_new (w : World) (x y z u : Value) (t : TypeId) : ∀ j v, [x, y, z, u][j]? = some v → (w.alloc (.cells #[x, y, z, u] t)).cell? ((⟨w.heap.size, 0, none⟩ : Addr).add j) = some v := by
  intro j v hj
  match j, hj with
  | 0, hj => simp at hj; subst hj; simp [Addr.add]
  | 1, hj => simp at hj; subst hj; simp [Addr.add]
  | 2, hj => simp at hj; subst hj; simp [Addr.add]
  | 3, hj => simp at hj; subst hj; simp [Addr.add]

/-- What holds at the head of a round: k numbers of the state are written. -/
def Rel (s : Ms.St) (base : Nat) (w0 : World) (b i : Value) (w : World) : Prop :=
  ∃ k : Nat, k ≤ 8 ∧ i = .int .i64 k ∧ owns base b ((s.list.take k).flatMap Ms.be4) w ∧ Below base w0 w ∧ base ≤ w.heap.size
theorem list_lt {s : Ms.St} (hs : s.ok) (k : Nat) (hk : k < 8) : s.list.getD k 0 < 4294967296 := by
  match k, hk with
  | 0, _ => exact hs.a
  | 1, _ => exact hs.b
  | 2, _ => exact hs.c
  | 3, _ => exact hs.d
  | 4, _ => exact hs.e
  | 5, _ => exact hs.f
  | 6, _ => exact hs.g
  | 7, _ => exact hs.h
theorem list_take (s : Ms.St) (k : Nat) (hk : k < 8) : (s.list.take (k + 1)).flatMap Ms.be4 = (s.list.take k).flatMap Ms.be4 ++ Ms.be4 (s.list.getD k 0) := by
  match k, hk with
  | 0, _ => rfl
  | 1, _ => rfl
  | 2, _ => rfl
  | 3, _ => rfl
  | 4, _ => rfl
  | 5, _ => rfl
  | 6, _ => rfl
  | 7, _ => rfl
theorem list_len (s : Ms.St) (k : Nat) (hk : k ≤ 8) : ((s.list.take k).flatMap Ms.be4).length = 4 * k := by
  match k, hk with
  | 0, _ => rfl
  | 1, _ => rfl
  | 2, _ => rfl
  | 3, _ => rfl
  | 4, _ => rfl
  | 5, _ => rfl
  | 6, _ => rfl
  | 7, _ => rfl
  | 8, _ => rfl

theorem be4_cells (n : Nat) (hn : n < 4294967296) :
    [Value.int .u8 ((n : Int) / 16777216), .int .u8 ((n : Int) / 65536 % 256), .int .u8 ((n : Int) / 256 % 256), .int .u8 ((n : Int) % 256)] = (Mb.cells (Ms.be4 n)).map (Value.int .u8) := by
  simp only [Mb.cells, Ms.be4, List.map_cons, List.map_nil, UInt8.toNat_ofNat', List.cons.injEq, Value.int.injEq, and_true, true_and]
  omega
/-- Four bytes more. -/
theorem owns_four {base : Nat} {v : Value} {l : List UInt8} {w : World} {n m : Nat} (hn : n < 4294967296) (hm : l.length = m)
    (h : w.ownsRow base 5 1 v (m + 4) ((Mb.cells l).map (Value.int .u8) ++ [Value.int .u8 ((n : Int) / 16777216), .int .u8 ((n : Int) / 65536 % 256), .int .u8 ((n : Int) / 256 % 256), .int .u8 ((n : Int) % 256)])) : owns base v (l ++ Ms.be4 n) w := by
  rw [be4_cells n hn] at h
  unfold owns
  rw [List.length_append, hm, show (Ms.be4 n).length = 4 from rfl]
  simpa [Mb.cells] using h

set_option maxRecDepth 100000 in
set_option maxHeartbeats 800000 in
theorem text_impl (s : Ms.St) (w : World) (hs : s.ok) :
    Calls Tryd.prog 58 #[.agg (stCells s)] w fun e w' => e = .returned (.string ⟨(Ms.bytes s).toArray⟩) ∧ Below w.heap.size w w' := by
  obtain ⟨i0, hi, hz0, hz1, hz2⟩ := info_parts info_u8
  have Hstate : Hid (stCells s = #[num s.a, num s.b, num s.c, num s.d, num s.e, num s.f, num s.g, num s.h]) := rfl
  rw [Hstate.out]
  have hi8 := K2.info_st s
  go_enter Tryd.func58, Tryd.ntmps58
  go_wp2_with (first
    | (at_make; refine wpList_make_own _ rfl _ _ 64 rfl (w.heap.size + 1) 5 i0 (.int .u8 0) 1 Tryd.underlying64 hi hz0 hz1 .i64 .i64 32 32 rfl rfl rfl (by rw [hz2]; decide) (by decide) (by simp) ?_))
  intro w1 hown hgrow
  have hH : w1.heap[w.heap.size]? = some (.cells (stCells s) 77 (0, 0)) := by
    rw [hgrow.block w.heap.size (by rw [nblk_alloc]; omega) (by simp), blk_alloc_new]; exact rfl
  have hld := C9.load_row (P := Tryd.prog) w1 w.heap.size 77 _ _ _ 8 _ hH Tryd.underlying77 hi8
  have HQ : Hid (Rel s (w.heap.size + 1) w1 (.slice (some ⟨w.heap.size + 1, 0, none⟩) 0 32) (.int .i64 0) w1) :=
    ⟨0, by omega, rfl, hown, Below.refl _ _, by have := hgrow.size; rw [nblk_alloc] at this; omega⟩
  have HB1 : Hid (Below w.heap.size w w1) := ((Below.refl _ _).alloc (Nat.le_refl _) _).grown hgrow (by rw [nblk_alloc]; omega) (fun k hk => by cases hk)
  clear hown hgrow hH
  go_wp2_with (refine C9.wpList_load_whole rfl 77 _ rfl _ rfl _ hld ?_)
  go_loopw [3, 8] (fun b i wr => Rel s (w.heap.size + 1) w1 b i wr) (fun _ i _ => 8 - (intOf i).toNat)
  case atStart => exact HQ.out
  case round =>
    clear HQ hld
    obtain ⟨k, hk, rfl, hown, hbel, hbs⟩ := hrel
    by_cases hlt : k < 8
    · have hx := K2.jxk s k hlt
      have hlk := list_lt hs k hlt
      have HT : Hid ((s.list.take (k + 1)).flatMap Ms.be4 = (s.list.take k).flatMap Ms.be4 ++ Ms.be4 (s.list.getD k 0)) := list_take s k hlt
      have HLen := list_len s k (by omega)
      generalize s.list.getD k 0 = n at *
      generalize (s.list.take k).flatMap Ms.be4 = pre at *
      go_wp2_with (first
        | (at_builtin; refine wpList_append_own _ rfl _ _ 64 rfl (w.heap.size + 1) 5 i0 (.int .u8 0) 1 1 Tryd.underlying64 hi hz0 hz1 hz2 rfl (by decide) _ _ _ rfl (hown.alloc _) ⟨wr.heap.size, 0, none⟩ 4 4 [_, _, _, _] rfl rfl (cell_four_new _ _ _ _ _ _) ?c2 ?c3 ?c4 ?c5 ?_))
      case c2 => intro u hu; simp at hu; rcases hu with rfl | rfl | rfl | rfl <;> rfl
      case c3 => unfold maxLen; omega
      case c4 => omega
      case c5 => simp; omega
      intro v' w2 hown' hgrow _
      have HO : Hid (owns (w.heap.size + 1) v' (pre ++ Ms.be4 n) w2) := owns_four hlk HLen hown'
      have HW : Hid (Below (w.heap.size + 1) w1 w2) := (hbel.alloc hbs _).grown hgrow (by rw [nblk_alloc]; omega) (fun k hk => (hown.lt k hk).1)
      have HZ : Hid (w.heap.size + 1 ≤ w2.heap.size) := by have := hgrow.size; rw [nblk_alloc] at this; unfold Hid; omega
      clear hown' hgrow hown hbel hbs
      go_wp2
      go_roundw
      case rel => exact ⟨k + 1, by omega, by go_num, by rw [HT.out]; exact HO.out, HW.out, HZ.out⟩
      case measure => simp [intOf]; omega
    · obtain rfl : k = 8 := by omega
      have hconv := conv_own hown
      have HE : Hid ((s.list.take 8).flatMap Ms.be4 = Ms.bytes s) := rfl
      generalize (s.list.take 8).flatMap Ms.be4 = res at *
      have HW : Hid (Below w.heap.size w wr) := HB1.out.trans (hbel.mono (by omega))
      clear hown hbel hbs
      go_wp2
      go_ret
      exact ⟨ret_str HE.out, HW.out⟩
end Go.Proofs.YtkpjdmmgdmbmnabDoor.K4
