/-
  The laws' own measure, copies and comparing of shares.
-/
import Derived.Test.YteehgicnfageiaaDoorSH
import Derived.Deep.OwnRows
import Derived.Deep.QuietTactic
import Derived.BigQuiet
import Derived.Deep.RegionWith
namespace Go.Proofs.YteehgicnfageiaaDoor.SI
open Go.RowKit
open Go.Proofs.YteehgicnfageiaaDoor.C0 Go.Proofs.YteehgicnfageiaaDoor.SH
theorem get_take_succ {α : Type} (l : List α) (k : Nat) (x : α) (h : l[k]? = some x) : l.take (k + 1) = l.take k ++ [x] := by
  rw [List.take_add_one, h]; rfl
def okOne (s : ByteArray) (left r : Int) : Prop := r < 0 ∨ (0 ≤ r ∧ r ≤ left ∧ (s.size : Int) ≤ left)
theorem info_share : (Tryd.prog.info? 24).map (fun i => (i.zero, i.size, i.bytes)) = some (some (.agg #[.int .i64 0, .string ⟨#[]⟩]), 2, 24) := by kernel_rfl
theorem oshares_of_row {B b : Nat} {w : World} {l : List Sh} {f : Nat → Value} (h : w.rowIs b 24 (l.length * 2) f) (hf : ∀ i s, l[i]? = some s → f (i * 2) = .int .i64 s.1 ∧ f (i * 2 + 1) = .string s.2) (hB : B ≤ b) (hm : l.length ≤ maxLen) :
    OShares B w (.slice (some ⟨b, 0, none⟩) l.length l.length) l := by
  obtain ⟨c, hb, hn, hc⟩ := h
  refine ⟨cp_length l, .inr ⟨b, l.length, c, rfl, hB, hb, Nat.le_refl _, hm, by omega, ?_⟩⟩
  apply List.ext_getElem?
  intro i
  rw [List.getElem?_take]
  by_cases hi : i < l.length * 2
  · rw [if_pos hi]
    obtain ⟨s, hs⟩ : ∃ s, l[i / 2]? = some s := ⟨_, List.getElem?_eq_getElem (by omega)⟩
    have h1 := hf _ s hs
    have h2 := cp_at l _ s hs
    have h3 := hc i hi
    rcases Nat.mod_two_eq_zero_or_one i with h | h
    · have e : i / 2 * 2 = i := by omega
      rw [e] at h1 h2
      rw [h2.1]; rw [h1.1] at h3; simpa using h3
    · have e : i / 2 * 2 + 1 = i := by omega
      rw [e] at h1 h2
      rw [h2.2]; rw [h1.2] at h3; simpa using h3
  · rw [if_neg hi, List.getElem?_eq_none (by rw [cp_length]; omega)]
theorem run_make_row2 {P : Program} (t e : TypeId) (z : Value) (bytes : Nat) (ht : P.underlying t = some (.slice e)) (hinfo : (P.info? e).map (fun i => (i.zero, i.size, i.bytes)) = some (some z, 2, bytes))
    (kl kc : IntKind) (n : Nat) (hbytes : bytes * n ≤ 281474976710656) (h63 : n ≤ 9223372036854775807) (w : World) :
    (Instr.makeSlice t (.int kl (n : Int)) (.int kc (n : Int))).run P w = .ok (.slice (some ⟨w.heap.size, 0, none⟩) n n) (w.alloc (.cells (madeCells z.cells (n * 2)) e)) := by
  obtain ⟨i, hi, hzz⟩ := Option.map_eq_some_iff.1 hinfo
  simp only [Prod.mk.injEq] at hzz
  obtain ⟨hz, hs, hb⟩ := hzz
  have hb' : (i.bytes : Int) * (n : Int) ≤ 281474976710656 := by
    rw [hb]
    have h : ((bytes * n : Nat) : Int) ≤ 281474976710656 := by omega
    rwa [Int.natCast_mul] at h
  have hr := run_make (P := P) w t e i z ht hi hz kl kc n n (by omega) (Int.le_refl _) hb' (by omega)
  simp only [Int.toNat_natCast, hs] at hr
  exact hr
def RelK (n : Nat) (w : World) (i : Value) (wr : World) : Prop := ∃ k : Nat, k ≤ n ∧ i = .int .i64 k ∧ Below w.heap.size w wr
theorem drewN_below {w wr : World} (h : Below w.heap.size w wr) : ∀ n, Below w.heap.size w (wr.drewN n)
  | 0 => h
  | n + 1 => (drewN_below h n).drew
end Go.Proofs.YteehgicnfageiaaDoor.SI
