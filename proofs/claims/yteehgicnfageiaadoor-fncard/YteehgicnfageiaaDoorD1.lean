/-
  The laws' own source of drawn numbers, on: a yes or no, a text of so many bytes, a new source.
-/
import Derived.Test.YteehgicnfageiaaDoorD0
import Derived.Laws.OwnMore
namespace Go.Proofs.YteehgicnfageiaaDoor.D1
open Go.RowKit
open Go.Proofs.YteehgicnfageiaaDoor.C0
open Go.Proofs.YteehgicnfageiaaDoor.D0

theorem one_any (B p n : Nat) (v : Value) (most : Int) (w : World) (hv : IsSrc w p v n) (hc : IsCode B w v n) (l : -9223372036854775808 ≤ most) (u : most ≤ 9223372036854775807) :
    Calls Tryd.prog 44 #[.pointer (some ⟨p, 0, none⟩), .int .i64 most] w fun e w' => ∃ b : Bool, e = .returned (.bool b) ∧ IsSrc w' p v n ∧ w.grownBy w' (some p) := by
  go_enter Tryd.func44, Tryd.ntmps44
  go_wp2_with fail
  refine (n_any B p n v most _ hv hc l u).mono ?_
  rintro e w1 ⟨r, rfl, _, hs, hg⟩
  go_wp2
  go_ret
  exact ⟨_, rfl, hs, hg⟩

/-- What holds at the head of a round that draws a byte more. -/
def Rel (w0 : World) (p : Nat) (v : Value) (n : Nat) (b : Value) (i : Value) (w : World) : Prop :=
  ∃ l : List UInt8, i = .int .i64 (l.length : Nat) ∧ owns w0.heap.size b l w ∧ IsSrc w p v n ∧ w0.grownBy w (some p)

set_option maxRecDepth 100000 in
set_option maxHeartbeats 800000 in
theorem bytes_any (B p n k : Nat) (v : Value) (w : World) (hv : IsSrc w p v n) (hc : IsCode B w v n) (hB : B ≤ p) (hk : k ≤ 1000000) :
    Calls Tryd.prog 77 #[.pointer (some ⟨p, 0, none⟩), .int .i64 k] w fun e w' => ∃ t : ByteArray, e = .returned (.string t) ∧ t.size = k ∧ IsSrc w' p v n ∧ w.grownBy w' (some p) := by
  obtain ⟨i0, hi, hz0, hz1, hz2⟩ := info_parts info_u8
  have hlt := hv.lt
  go_enter Tryd.func77, Tryd.ntmps77
  go_wp2_with fail
  go_loopw [5, 6] (fun b i wr => Rel w p v n b i wr ∧ intOf i ≤ k) (fun _ i _ => k - (intOf i).toNat)
  case atStart =>
    refine ⟨⟨[], rfl, owns_lit0 _ _ (Nat.le_refl _), hv.kept ?_, World.grownBy_alloc _ _ _⟩, by simp [intOf]⟩
    exact Below.heap_alloc w _ p hlt
  case round =>
    obtain ⟨⟨l, rfl, hown, hs, hg⟩, hle⟩ := hrel
    simp only [intOf] at hle
    have hgs := hg.size
    by_cases hlk : l.length < k
    · have hcr : IsCode B wr v n := hc.grown hg hB (by omega)
      go_wp2_with fail
      refine (n_any B p n v 256 _ hs hcr (by omega) (by omega)).mono ?_
      rintro e w1 ⟨r, rfl, hr, hs1, hg1⟩
      have hr8 : r < 256 := by omega
      have hg1s := hg1.size
      have hown1 : owns w.heap.size u5 l w1 := hown.kept hg1 (by
        rcases hob : u5.ownBlock with _ | g
        · exact .inl rfl
        · have := (hown.lt g hob).1
          exact .inr (by simp; omega))
      go_wp2_with (first
        | (at_builtin; refine wpList_append_own _ rfl _ _ 22 rfl w.heap.size 5 i0 (.int .u8 0) 1 1 Tryd.underlying22 hi hz0 hz1 hz2 rfl (by decide) _ _ _ rfl (hown1.alloc _) ⟨w1.heap.size, 0, none⟩ 1 1 [_] rfl rfl (cell_one_new _ _ _) ?c2 ?c3 ?c4 ?c5 ?_))
      case c2 => intro x hx; simp at hx; subst hx; rfl
      case c3 => unfold maxLen; omega
      case c4 => omega
      case c5 => simp; omega
      intro v' w2 hown' hgrow _
      have hrel : Rel w p v n v' (.int .i64 ((l.length : Int) + 1)) w2 := by
        have hnb : ∀ g, u5.ownBlock = some g → w.heap.size ≤ g := fun g hg' => (hown1.lt g hg').1
        refine ⟨l ++ [UInt8.ofNat r], by simp, owns_snoc _ ?_, hs1.kept ?_, ?_⟩
        · rw [show ((UInt8.ofNat r).toNat : Int) = (r : Int) by simp [UInt8.toNat_ofNat']; omega]; exact hown'
        · rw [hgrow.block p (by simp; omega) (fun e => by have := hnb p e.symm; omega)]
          exact Below.heap_alloc w1 _ p (by omega)
        · refine ⟨hgrow.os.trans (hg1.os.trans hg.os), hgrow.tape.trans (hg1.tape.trans hg.tape), hgrow.output.trans (hg1.output.trans hg.output), ?_, fun j hj hne => ?_⟩
          · have := hgrow.size; simp at this; omega
          · rw [hgrow.block j (by simp; omega) (fun e => by have := hnb j e.symm; omega), Below.heap_alloc w1 _ j (by omega), hg1.block j (by omega) hne, hg.block j hj hne]
      clear hown' hgrow hown1 hs1 hg1 hown hs hg hcr
      go_wp2
      go_roundw
      case rel => exact ⟨hrel, by simp [intOf]; omega⟩
      case measure => simp [intOf]; omega
    · have hconv := conv_own hown
      clear hown
      go_wp2
      go_ret
      exact ⟨_, rfl, by simp [ByteArray.size]; omega, hs, hg⟩
end Go.Proofs.YteehgicnfageiaaDoor.D1
