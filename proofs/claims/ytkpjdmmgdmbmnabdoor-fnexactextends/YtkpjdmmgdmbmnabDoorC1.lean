/-
  What the functions that write a number in bytes answer, in the specification and in the program: the bytes of seven bits, lowest first.
-/
import Derived.Test.YtkpjdmmgdmbmnabDoorC0
namespace Go.Proofs.YtkpjdmmgdmbmnabDoor.C1
open Go.RowKit
open Go.Proofs.YtkpjdmmgdmbmnabDoor.C0

theorem fold_spec (n : Int) (w : World) (h1 : -9223372036854775808 ≤ n) (h2 : n ≤ 9223372036854775807) :
    Calls Tryd.prog 47 #[.int .i64 n] w fun e w' => e = .returned (.int .u64 (Mb.foldU n : Nat)) ∧ w = w' := by
  by_cases h : n < 0
  all_goals
    go_enter Tryd.func47, Tryd.ntmps47
    go_wp2
    go_ret
  · exact ⟨ret_int (Mb.foldU_neg n h).symm, rfl⟩
  · exact ⟨ret_int (Mb.foldU_pos n (by omega)).symm, rfl⟩
theorem fold_impl (n : Int) (w : World) (h1 : -9223372036854775808 ≤ n) (h2 : n ≤ 9223372036854775807) :
    Calls Tryd.prog 59 #[.int .i64 n] w fun e w' => e = .returned (.int .u64 (Mb.foldU n : Nat)) ∧ w = w' := by
  by_cases h : n < 0
  all_goals
    go_enter Tryd.func59, Tryd.ntmps59
    go_wp2
    go_ret
  · exact ⟨ret_int (Mb.foldU_neg n h).symm, rfl⟩
  · exact ⟨ret_int (Mb.foldU_pos n (by omega)).symm, rfl⟩
/-- What holds at the head of a round: the bytes made so far, and what is left of the number. -/
def Rel (u : Nat) (base : Nat) (w0 : World) (x : Value) (b : Value) (w : World) : Prop :=
  ∃ (f : Nat) (pre : List UInt8) (v : Nat), pre.length + f = 9 ∧ v < 2 * 128 ^ f ∧ Mb.leb 9 u = pre ++ Mb.leb f v ∧ x = .int .u64 (v : Nat) ∧ owns base b pre w ∧ Below base w0 w ∧ base ≤ w.heap.size

theorem byte_more (v : Nat) : (v : Int) % 128 + 128 = ((UInt8.ofNat (v % 128 + 128)).toNat : Int) := by
  simp [UInt8.toNat_ofNat']; omega
theorem byte_last (v : Nat) (h : v < 128) : (v : Int) = ((UInt8.ofNat v).toNat : Int) := by
  simp [UInt8.toNat_ofNat']; omega

/-- One round more. -/
theorem Rel.step {u base : Nat} {w0 w w1 : World} {b b' : Value} {f v : Nat} {pre : List UInt8} (hf : pre.length + f = 9) (hv : v < 2 * 128 ^ f)
    (hl : Mb.leb 9 u = pre ++ Mb.leb f v) (h128 : 128 ≤ v) (c : UInt8) (hc : c = UInt8.ofNat (v % 128 + 128)) (o : Obj) (hown : owns base b pre w) (hbel : Below base w0 w) (hbs : base ≤ w.heap.size)
    (h1 : w1.ownsRow base 5 1 b' (pre.length + 1) ((Mb.cells pre).map (Value.int .u8) ++ [.int .u8 (c.toNat : Int)])) (hg : (w.alloc o).grownBy w1 b.ownBlock) :
    Rel u base w0 (.int .u64 ((v / 128 : Nat) : Int)) b' w1 := by
  obtain ⟨g, rfl⟩ : ∃ g, f = g + 1 := by
    cases f with
    | zero => exact absurd (Mb.pow_zero_lt v hv) (by omega)
    | succ g => exact ⟨g, rfl⟩
  subst hc
  refine ⟨g, pre ++ [UInt8.ofNat (v % 128 + 128)], v / 128, by simp; omega, Mb.pow_step g v hv, by rw [hl, Mb.leb_great g v h128]; simp, rfl, owns_snoc _ h1, ?_, ?_⟩
  · exact (hbel.alloc hbs o).grown hg (by simp; omega) (fun k hk => (hown.lt k hk).1)
  · have := hg.size; simp at this; omega

theorem last_text {u f v : Nat} {pre : List UInt8} (hl : Mb.leb 9 u = pre ++ Mb.leb f v) (h : v < 128) : Mb.leb 9 u = pre ++ [UInt8.ofNat v] := by
  rw [hl, Mb.leb_small f v h]

set_option maxHeartbeats 800000 in
set_option maxRecDepth 100000 in
theorem put_spec (n : Int) (w : World) (h1 : -9223372036854775808 ≤ n) (h2 : n ≤ 9223372036854775807) :
    Calls Tryd.prog 34 #[.int .i64 n] w fun e w' => e = .returned (.string ⟨(Mb.putNum n).toArray⟩) ∧ Below w.heap.size w w' := by
  have hlt := Mb.foldU_lt n h1 h2
  obtain ⟨i0, hi, hz0, hz1, hz2⟩ := info_parts info_u8
  go_enter Tryd.func34, Tryd.ntmps34
  go_wp2_with fail
  refine (fold_spec n _ h1 h2).mono ?_
  rintro e w' ⟨rfl, rfl⟩
  go_wp2_with fail
  go_loopw [3, 4] (fun x b wr => Rel (Mb.foldU n) w.heap.size w x b wr) (fun x _ _ => (intOf x).toNat)
  case atStart => exact ⟨9, [], Mb.foldU n, rfl, hlt, rfl, rfl, owns_lit0 _ _ (Nat.le_refl _), (Below.refl _ _).alloc (Nat.le_refl _) _, by simp⟩
  case round =>
    obtain ⟨f, pre, v, hf, hv, hl, rfl, hown, hbel, hbs⟩ := hrel
    have hvb := Mb.bound_lt f v (by omega) hv
    have HL : Hid (Mb.leb 9 (Mb.foldU n) = pre ++ Mb.leb f v) := hl
    clear hl
    by_cases h128 : 128 ≤ v
    · go_wp2_with (first
        | (at_builtin; refine wpList_append_own _ rfl _ _ 64 rfl w.heap.size 5 i0 (.int .u8 0) 1 1 Tryd.underlying64 hi hz0 hz1 hz2 rfl (by decide) _ _ _ rfl (hown.alloc _) ⟨wr.heap.size, 0, none⟩ 1 1 [_] rfl rfl (cell_one_new _ _ _) ?c2 ?c3 ?c4 ?c5 ?_))
      case c2 => intro u hu; simp at hu; subst hu; rfl
      case c3 => unfold maxLen; omega
      case c4 => omega
      case c5 => simp; omega
      intro v' w1 hown' hgrow _
      go_wp2
      go_roundw
      case rel =>
        refine Rel.step hf hv HL.out h128 _ rfl _ hown hbel hbs ?_ hgrow
        rw [← byte_more]; exact hown'
      case measure => simp [intOf]; omega
    · have hfin : Hid (Mb.leb 9 (Mb.foldU n) = pre ++ [UInt8.ofNat v]) := last_text HL.out (by omega)
      go_wp2_with (first
        | (at_builtin; refine wpList_append_own _ rfl _ _ 64 rfl w.heap.size 5 i0 (.int .u8 0) 1 1 Tryd.underlying64 hi hz0 hz1 hz2 rfl (by decide) _ _ _ rfl (hown.alloc _) ⟨wr.heap.size, 0, none⟩ 1 1 [_] rfl rfl (cell_one_new _ _ _) ?c2 ?c3 ?c4 ?c5 ?_))
      case c2 => intro u hu; simp at hu; subst hu; rfl
      case c3 => unfold maxLen; omega
      case c4 => omega
      case c5 => simp; omega
      intro v' w1 hown' hgrow _
      have ho2 : owns w.heap.size v' (pre ++ [UInt8.ofNat v]) w1 := owns_snoc _ (by rw [← byte_last v (by omega)]; exact hown')
      have hconv := conv_own ho2
      have hb1 : Below w.heap.size w w1 := (hbel.alloc hbs _).grown hgrow (by simp; omega) (fun k hk => (hown.lt k hk).1)
      clear hown' hgrow ho2
      go_wp2
      go_ret
      exact ⟨ret_str hfin.out.symm, hb1⟩
set_option maxHeartbeats 800000 in
set_option maxRecDepth 100000 in
theorem put_impl (n : Int) (w : World) (h1 : -9223372036854775808 ≤ n) (h2 : n ≤ 9223372036854775807) :
    Calls Tryd.prog 49 #[.int .i64 n] w fun e w' => e = .returned (.string ⟨(Mb.putNum n).toArray⟩) ∧ Below w.heap.size w w' := by
  have hlt := Mb.foldU_lt n h1 h2
  obtain ⟨i0, hi, hz0, hz1, hz2⟩ := info_parts info_u8
  go_enter Tryd.func49, Tryd.ntmps49
  go_wp2_with fail
  refine (fold_impl n _ h1 h2).mono ?_
  rintro e w' ⟨rfl, rfl⟩
  go_wp2_with fail
  go_loopw [3, 4] (fun b x wr => Rel (Mb.foldU n) w.heap.size w x b wr) (fun _ x _ => (intOf x).toNat)
  case atStart => exact ⟨9, [], Mb.foldU n, rfl, hlt, rfl, rfl, owns_nil _ _, Below.refl _ _, Nat.le_refl _⟩
  case round =>
    obtain ⟨f, pre, v, hf, hv, hl, rfl, hown, hbel, hbs⟩ := hrel
    have hvb := Mb.bound_lt f v (by omega) hv
    have HL : Hid (Mb.leb 9 (Mb.foldU n) = pre ++ Mb.leb f v) := hl
    clear hl
    by_cases h128 : 128 ≤ v
    · go_wp2_with (first
        | (at_builtin; refine wpList_append_own _ rfl _ _ 64 rfl w.heap.size 5 i0 (.int .u8 0) 1 1 Tryd.underlying64 hi hz0 hz1 hz2 rfl (by decide) _ _ _ rfl (hown.alloc _) ⟨wr.heap.size, 0, none⟩ 1 1 [_] rfl rfl (cell_one_new _ _ _) ?c2 ?c3 ?c4 ?c5 ?_))
      case c2 => intro u hu; simp at hu; subst hu; rfl
      case c3 => unfold maxLen; omega
      case c4 => omega
      case c5 => simp; omega
      intro v' w1 hown' hgrow _
      go_wp2
      go_roundw
      case rel =>
        refine Rel.step hf hv HL.out h128 _ rfl _ hown hbel hbs ?_ hgrow
        rw [← byte_more]; exact hown'
      case measure => simp [intOf]; omega
    · have hfin : Hid (Mb.leb 9 (Mb.foldU n) = pre ++ [UInt8.ofNat v]) := last_text HL.out (by omega)
      go_wp2_with (first
        | (at_builtin; refine wpList_append_own _ rfl _ _ 64 rfl w.heap.size 5 i0 (.int .u8 0) 1 1 Tryd.underlying64 hi hz0 hz1 hz2 rfl (by decide) _ _ _ rfl (hown.alloc _) ⟨wr.heap.size, 0, none⟩ 1 1 [_] rfl rfl (cell_one_new _ _ _) ?c2 ?c3 ?c4 ?c5 ?_))
      case c2 => intro u hu; simp at hu; subst hu; rfl
      case c3 => unfold maxLen; omega
      case c4 => omega
      case c5 => simp; omega
      intro v' w1 hown' hgrow _
      have ho2 : owns w.heap.size v' (pre ++ [UInt8.ofNat v]) w1 := owns_snoc _ (by rw [← byte_last v (by omega)]; exact hown')
      have hconv := conv_own ho2
      have hb1 : Below w.heap.size w w1 := (hbel.alloc hbs _).grown hgrow (by simp; omega) (fun k hk => (hown.lt k hk).1)
      clear hown' hgrow ho2
      go_wp2
      go_ret
      exact ⟨ret_str hfin.out.symm, hb1⟩
end Go.Proofs.YtkpjdmmgdmbmnabDoor.C1
