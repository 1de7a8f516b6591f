/-
  The laws' own measure, copies and comparing of rows of texts.
-/
import Derived.Test.YtkpjdmmgdmbmnaaDoorA7
namespace Go.Proofs.YtkpjdmmgdmbmnaaDoor.A8
open Go.RowKit
open Go.Proofs.YtkpjdmmgdmbmnaaDoor.C0 Go.Proofs.YtkpjdmmgdmbmnaaDoor.HB
open Go.Proofs.YtkpjdmmgdmbmnaaDoor.A4
open Go.Proofs.YtkpjdmmgdmbmnaaDoor.A6 (RelK drewN_below add0)
def cs (l : List ByteArray) : List Value := l.map .string
theorem cs_length (l : List ByteArray) : (cs l).length = l.length * 1 := by simp [cs]
def OStrs (B : Nat) (w : World) (v : Value) (l : List ByteArray) : Prop := w.ownsRow B 9 1 v l.length (cs l)
theorem OStrs.strs {B : Nat} {w : World} {v : Value} {l : List ByteArray} (h : OStrs B w v l) : SRow w v l := by
  have h' := h
  rcases h.2 with ⟨rfl, h0⟩ | ⟨g, cap, cur, rfl, hb, hg, hnc, hcm, hcs, htake⟩
  · exact ⟨none, 0, by rw [h0], by rw [h0]; exact Nat.zero_le _, fun q => by omega⟩
  · refine ⟨_, cap, rfl, by omega, fun _ => ⟨g, 0, rfl, (Array.getElem?_eq_some_iff.1 hg).1, fun i s hs => ?_⟩⟩
    have := World.ownsRow.cells h' rfl i (.string s) (by simp [cs, hs])
    rwa [add0] at this
/-- What a measure that has not run out says of a row of texts. -/
def okS (l : List ByteArray) (left r : Int) : Prop := r < 0 ∨ (0 ≤ r ∧ r ≤ left ∧ (l.length : Int) ≤ left ∧ ∀ s ∈ l, (s.size : Int) ≤ left)
theorem get_take_succ {α : Type} (l : List α) (k : Nat) (x : α) (h : l[k]? = some x) : l.take (k + 1) = l.take k ++ [x] := by
  rw [List.take_add_one, h]; rfl
set_option maxRecDepth 100000 in
set_option maxHeartbeats 800000 in
theorem szStrs_any (v : Value) (l : List ByteArray) (left : Int) (w : World) (hv : SRow w v l) (hz : ∀ s ∈ l, s.size ≤ maxLen) (h0 : 0 ≤ left) (h1 : left ≤ 1048576) :
    Calls Tryd.prog 64 #[v, .int .i64 left] w fun e w' => ∃ r, e = .returned (.int .i64 r) ∧ okS l left r ∧ w' = w := by
  obtain ⟨a, cap, rfl, hl, hc⟩ := hv
  unfold maxLen at hl hz
  by_cases hb : left < l.length
  · go_enter Tryd.func64, Tryd.ntmps64
    go_wp2
    go_ret
    exact ⟨_, rfl, .inl (by omega), rfl⟩
  go_enter Tryd.func64, Tryd.ntmps64
  go_wp2
  go_loop [1, 5] (fun q i => ∃ k : Nat, k ≤ l.length ∧ i = .int .i64 k ∧ ∃ r : Int, q = .int .i64 r ∧ 0 ≤ r ∧ r ≤ left ∧ ∀ s ∈ l.take k, (s.size : Int) ≤ left) (fun _ i => l.length - (intOf i).toNat)
  case atStart => exact ⟨0, Nat.zero_le _, rfl, _, rfl, by omega, by omega, by simp⟩
  case round =>
    obtain ⟨k, hk, rfl, r, rfl, hr0, hr1, hrs⟩ := hrel
    by_cases hlt : k < l.length
    · obtain ⟨b, off, rfl, hbb, hcc⟩ := hc (by omega)
      obtain ⟨s, hs⟩ : ∃ s, l[k]? = some s := ⟨_, List.getElem?_eq_getElem hlt⟩
      have hcell := hcc k s hs
      have hsz := hz s (List.mem_of_getElem? hs)
      have HS : Hid (l[k]? = some s) := hs
      clear hs hcc
      go_wp2
      · go_ret
        exact ⟨_, rfl, .inl (by omega), rfl⟩
      · go_round
        case rel => 
          refine ⟨k + 1, by omega, by go_num, _, rfl, by omega, by omega, ?_⟩
          rw [get_take_succ l k s HS.out]
          intro x hx
          rcases List.mem_append.1 hx with h | h
          · exact hrs x h
          · simp at h; subst h; omega
        case measure => simp [intOf]; omega
    · go_wp2
      go_ret
      refine ⟨_, rfl, .inr ⟨by omega, by omega, by omega, ?_⟩, rfl⟩
      rw [List.take_of_length_le (by omega)] at hrs
      exact hrs
theorem info_str : (Tryd.prog.info? 9).map (fun i => (i.zero, i.size, i.bytes)) = some (some (.string ⟨#[]⟩), 1, 16) := by kernel_rfl
theorem ostrs_of_row {B b : Nat} {w : World} {l : List ByteArray} {f : Nat → Value} (h : w.rowIs b 9 l.length f) (hf : ∀ i s, l[i]? = some s → f i = .string s) (hB : B ≤ b) (hm : l.length ≤ maxLen) :
    OStrs B w (.slice (some ⟨b, 0, none⟩) l.length l.length) l := by
  obtain ⟨c, hb, hn, hc⟩ := h
  refine ⟨cs_length l, .inr ⟨b, l.length, c, rfl, hB, hb, Nat.le_refl _, hm, by omega, ?_⟩⟩
  apply List.ext_getElem?
  intro i
  rw [List.getElem?_take]
  by_cases hi : i < l.length
  · obtain ⟨s, hs⟩ : ∃ s, l[i]? = some s := ⟨_, List.getElem?_eq_getElem hi⟩
    rw [if_pos (by omega)]
    have := hc i hi
    rw [hf i s hs] at this
    simp [cs, hs] at this ⊢
    exact this
  · rw [if_neg (by omega), List.getElem?_eq_none (by rw [cs_length]; omega)]
def RelS (l : List ByteArray) (w0 : World) (i : Value) (wr : World) : Prop :=
  ∃ (k : Nat) (f : Nat → Value), k ≤ l.length ∧ i = .int .i64 k ∧ wr.rowIs w0.heap.size 9 l.length f ∧ (∀ j s, j < k → l[j]? = some s → f j = .string s) ∧ Below w0.heap.size w0 wr
theorem RelS.step {l : List ByteArray} {w0 wr : World} {k : Nat} {f : Nat → Value} {s : ByteArray} (hk : k < l.length) (hs : l[k]? = some s) (hrow : wr.rowIs w0.heap.size 9 l.length f) (hf : ∀ j s, j < k → l[j]? = some s → f j = .string s) (hb : Below w0.heap.size w0 wr) :
    RelS l w0 (.int .i64 ((k : Int) + 1)) (wr.setCell ⟨w0.heap.size, k, none⟩ (.string s)) := by
  refine ⟨k + 1, _, by omega, by simp, hrow.set _ _, fun j t hj ht => ?_, hb.setCell (Nat.le_refl _) _⟩
  show (if j = k then _ else f j) = _
  by_cases e : j = k
  · subst e; rw [if_pos rfl]; rw [hs] at ht; cases ht; rfl
  · rw [if_neg e]; exact hf j t (by omega) ht
set_option maxRecDepth 100000 in
set_option maxHeartbeats 800000 in
theorem toStrs_any (v : Value) (l : List ByteArray) (w : World) (hv : SRow w v l) (hz : l.length ≤ 1048576) :
    Calls Tryd.prog 66 #[v] w fun e w' => ∃ a cap, e = .returned (.slice a l.length cap) ∧ OStrs w.heap.size w' (.slice a l.length cap) l ∧ Below w.heap.size w w' := by
  obtain ⟨a, cap, rfl, hl, hc⟩ := hv
  have hmk := run_make_row' (P := Tryd.prog) 24 9 (.string ⟨#[]⟩) 16 Tryd.underlying24 info_str rfl .i64 .i64 l.length (by omega) (by omega)
  have hrow0 : (w.alloc (.cells (madeCells #[Value.string ⟨#[]⟩] l.length) 9)).rowIs w.heap.size 9 l.length (fun _ => .string ⟨#[]⟩) :=
    ⟨_, Go.Deep.blk_alloc_new _ _, by rw [size_madeCells], fun i hi => by simp [madeCells, hi, Nat.mod_one]⟩
  have H0 : Hid (RelS l w (.int .i64 0) (w.alloc (.cells (madeCells #[Value.string ⟨#[]⟩] l.length) 9))) := ⟨0, _, Nat.zero_le _, rfl, hrow0, fun j s h => by omega, (Below.refl _ _).alloc (Nat.le_refl _) _⟩
  clear hrow0
  go_enter Tryd.func66, Tryd.ntmps66
  go_wp2
  clear hmk
  go_loopw [4] (fun i wr => RelS l w i wr) (fun i _ => l.length - (intOf i).toNat)
  case atStart => exact H0.out
  case round =>
    clear H0
    obtain ⟨k, f, hk, rfl, hrow, hf, hbel⟩ := hrel
    by_cases hlt : k < l.length
    · obtain ⟨b, off, rfl, hbb, hcc⟩ := hc (by omega)
      obtain ⟨s, hs⟩ : ∃ s, l[k]? = some s := ⟨_, List.getElem?_eq_getElem hlt⟩
      have c0 := hcc k s hs
      rw [← hbel.cell (p := ⟨b, off + k, none⟩) hbb] at c0
      have HN : Hid (RelS l w (.int .i64 ((k : Int) + 1)) (wr.setCell ⟨w.heap.size, k, none⟩ (.string s))) := RelS.step hlt hs hrow hf hbel
      obtain ⟨o, ho⟩ : ∃ o, wr.cell? ⟨w.heap.size, k, none⟩ = some o := ⟨_, hrow.cell hlt⟩
      have hfr := hrow.frozen k
      clear hs hcc hrow hf hbel
      go_wp2
      go_roundw
      case rel => exact HN.out
      case measure => simp [intOf]; omega
    · have hkl : k = l.length := by omega
      have HF : Hid (OStrs w.heap.size wr (.slice (some ⟨w.heap.size, 0, none⟩) l.length l.length) l) := ostrs_of_row hrow (fun i s hs => hf i s (by rw [hkl]; exact (List.getElem?_eq_some_iff.1 hs).1) hs) (Nat.le_refl _) (by unfold maxLen; omega)
      have HB : Hid (Below w.heap.size w wr) := hbel
      clear hrow hf hbel hkl
      go_wp2
      go_ret
      exact ⟨_, _, rfl, HF.out, HB.out⟩
set_option maxRecDepth 100000 in
set_option maxHeartbeats 800000 in
theorem eqStrs_any (v u : Value) (l : List ByteArray) (w : World) (hv : SRow w v l) (hu : SRow w u l) :
    Calls Tryd.prog 68 #[v, u] w fun e w' => e = .returned (.bool true) ∧ Below w.heap.size w w' := by
  obtain ⟨a, cap, rfl, hl, hc⟩ := hv
  obtain ⟨a2, cap2, rfl, _, hc2⟩ := hu
  unfold maxLen at hl
  have H0 : Hid (RelK l.length w (.int .i64 0) w) := ⟨0, Nat.zero_le _, rfl, Below.refl _ _⟩
  go_enter Tryd.func68, Tryd.ntmps68
  go_wp2
  go_loopw [5] (fun i wr => RelK l.length w i wr) (fun i _ => l.length - (intOf i).toNat)
  case atStart => exact H0.out
  case round =>
    clear H0
    obtain ⟨k, hk, rfl, hbel⟩ := hrel
    by_cases hlt : k < l.length
    · obtain ⟨b, off, rfl, hbb, hcc⟩ := hc (by omega)
      obtain ⟨b2, off2, rfl, hbb2, hcc2⟩ := hc2 (by omega)
      obtain ⟨s, hs⟩ : ∃ s, l[k]? = some s := ⟨_, List.getElem?_eq_getElem hlt⟩
      have c0 := hcc k s hs
      have c1 := hcc2 k s hs
      rw [← hbel.cell (p := ⟨b, off + k, none⟩) hbb] at c0
      rw [← hbel.cell (p := ⟨b2, off2 + k, none⟩) hbb2] at c1
      have hlt' : (k : Int) < (l.length : Int) := by omega
      clear hs hcc hcc2
      have HB : Hid (Below w.heap.size w wr) := hbel
      clear hbel
      go_wp2
      go_quiet (fail)
      go_wp2
      go_roundw
      case rel => exact ⟨k + 1, by omega, by go_num, drewN_below HB.out _⟩
      case measure => simp [intOf]; omega
    · go_wp2
      go_ret
      exact ⟨rfl, hbel⟩
end Go.Proofs.YtkpjdmmgdmbmnaaDoor.A8
