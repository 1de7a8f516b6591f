/-
  The laws' own measure, copies and comparing of rows of numbers, and of a line.
-/
import Derived.Test.YtkpjdmmgdmbmnaaDoorA2
import Derived.Deep.OwnRows
import Derived.BigQuiet
namespace Go.Proofs.YtkpjdmmgdmbmnaaDoor.A6
open Go.RowKit
open Go.Proofs.YtkpjdmmgdmbmnaaDoor.C0 Go.Proofs.YtkpjdmmgdmbmnaaDoor.HB
open Go.Proofs.YtkpjdmmgdmbmnaaDoor.A0 Go.Proofs.YtkpjdmmgdmbmnaaDoor.A1
theorem add0 (b off j : Nat) : (⟨b, off, none⟩ : Addr).add j = ⟨b, off + j, none⟩ := by unfold Addr.add; split <;> simp_all
theorem own_keep {B : Nat} {e : TypeId} {sz n : Nat} {xs : List Value} {w w' : World} {v : Value} (h : w.ownsRow B e sz v n xs) (hk : ∀ g, v.ownBlock = some g → w'.heap[g]? = w.heap[g]?) : w'.ownsRow B e sz v n xs := by
  refine ⟨h.1, ?_⟩
  rcases h.2 with hn | ⟨g, cap, cur, rfl, hb, hg, rest⟩
  · exact .inl hn
  · exact .inr ⟨g, cap, cur, rfl, hb, (hk g rfl).trans hg, rest⟩
def RelK (n : Nat) (w : World) (i : Value) (wr : World) : Prop := ∃ k : Nat, k ≤ n ∧ i = .int .i64 k ∧ Below w.heap.size w wr
theorem drewN_below {w wr : World} (h : Below w.heap.size w wr) : ∀ n, Below w.heap.size w (wr.drewN n)
  | 0 => h
  | n + 1 => (drewN_below h n).drew
theorem info_i64 : (Tryd.prog.info? 2).map (fun i => (i.zero, i.size, i.bytes)) = some (some (.int .i64 0), 1, 8) := by kernel_rfl
def ci (l : List Int) : List Value := l.map (.int .i64)
theorem ci_length (l : List Int) : (ci l).length = l.length * 1 := by simp [ci]
def OIRow (B : Nat) (w : World) (v : Value) (l : List Int) : Prop := w.ownsRow B 2 1 v l.length (ci l)
theorem OIRow.irow {B : Nat} {w : World} {v : Value} {l : List Int} (h : OIRow B w v l) : IRow w v l := by
  have h' := h
  rcases h.2 with ⟨rfl, h0⟩ | ⟨g, cap, cur, rfl, hb, hg, hnc, hcm, hcs, htake⟩
  · exact ⟨none, 0, by rw [h0], by rw [h0]; exact Nat.zero_le _, fun q => by omega⟩
  · refine ⟨_, cap, rfl, by omega, fun _ => ⟨g, 0, rfl, (Array.getElem?_eq_some_iff.1 hg).1, fun i s hs => ?_⟩⟩
    have := World.ownsRow.cells h' rfl i (.int .i64 s) (by simp [ci, hs])
    rwa [add0] at this
theorem OIRow.below {B : Nat} {w w' : World} {v : Value} {l : List Int} (h : OIRow B w v l) (hb : Below w.heap.size w w') : OIRow B w' v l :=
  own_keep h fun g hg => hb.block g (h.lt g hg).2
theorem oints_of_row {B b : Nat} {w : World} {l : List Int} {f : Nat → Value} (h : w.rowIs b 2 l.length f) (hf : ∀ i s, l[i]? = some s → f i = .int .i64 s) (hB : B ≤ b) (hm : l.length ≤ maxLen) :
    OIRow B w (.slice (some ⟨b, 0, none⟩) l.length l.length) l := by
  obtain ⟨c, hb, hn, hc⟩ := h
  refine ⟨ci_length l, .inr ⟨b, l.length, c, rfl, hB, hb, Nat.le_refl _, hm, by omega, ?_⟩⟩
  apply List.ext_getElem?
  intro i
  rw [List.getElem?_take]
  by_cases hi : i < l.length
  · obtain ⟨s, hs⟩ : ∃ s, l[i]? = some s := ⟨_, List.getElem?_eq_getElem hi⟩
    rw [if_pos (by omega)]
    have := hc i hi
    rw [hf i s hs] at this
    simp [ci, hs] at this ⊢
    exact this
  · rw [if_neg (by omega), List.getElem?_eq_none (by rw [ci_length]; omega)]
def RelT (l : List Int) (w0 : World) (i : Value) (wr : World) : Prop :=
  ∃ (k : Nat) (f : Nat → Value), k ≤ l.length ∧ i = .int .i64 k ∧ wr.rowIs w0.heap.size 2 l.length f ∧ (∀ j s, j < k → l[j]? = some s → f j = .int .i64 s) ∧ Below w0.heap.size w0 wr
theorem RelT.step {l : List Int} {w0 wr : World} {k : Nat} {f : Nat → Value} {s : Int} (hk : k < l.length) (hs : l[k]? = some s) (hrow : wr.rowIs w0.heap.size 2 l.length f) (hf : ∀ j s, j < k → l[j]? = some s → f j = .int .i64 s) (hb : Below w0.heap.size w0 wr) :
    RelT l w0 (.int .i64 ((k : Int) + 1)) (wr.setCell ⟨w0.heap.size, k, none⟩ (.int .i64 s)) := by
  refine ⟨k + 1, _, by omega, by simp, hrow.set _ _, fun j t hj ht => ?_, hb.setCell (Nat.le_refl _) _⟩
  show (if j = k then _ else f j) = _
  by_cases e : j = k
  · subst e; rw [if_pos rfl]; rw [hs] at ht; cases ht; rfl
  · rw [if_neg e]; exact hf j t (by omega) ht
set_option maxRecDepth 100000 in
set_option maxHeartbeats 800000 in
theorem toInts_any (v : Value) (l : List Int) (w : World) (hv : IRow w v l) (hz : l.length ≤ 1048576) :
    Calls Tryd.prog 70 #[v] w fun e w' => ∃ a cap, e = .returned (.slice a l.length cap) ∧ OIRow w.heap.size w' (.slice a l.length cap) l ∧ Below w.heap.size w w' := by
  obtain ⟨a, cap, rfl, hl, hc⟩ := hv
  have hmk := run_make_row' (P := Tryd.prog) 27 2 (.int .i64 0) 8 Tryd.underlying27 info_i64 rfl .i64 .i64 l.length (by omega) (by omega)
  have hrow0 : (w.alloc (.cells (madeCells #[Value.int .i64 0] l.length) 2)).rowIs w.heap.size 2 l.length (fun _ => .int .i64 0) :=
    ⟨_, Go.Deep.blk_alloc_new _ _, by rw [size_madeCells], fun i hi => by simp [madeCells, hi, Nat.mod_one]⟩
  have H0 : Hid (RelT l w (.int .i64 0) (w.alloc (.cells (madeCells #[Value.int .i64 0] l.length) 2))) := ⟨0, _, Nat.zero_le _, rfl, hrow0, fun j s h => by omega, (Below.refl _ _).alloc (Nat.le_refl _) _⟩
  clear hrow0
  go_enter Tryd.func70, Tryd.ntmps70
  go_wp2
  clear hmk
  go_loopw [4] (fun i wr => RelT l w i wr) (fun i _ => l.length - (intOf i).toNat)
  case atStart => exact H0.out
  case round =>
    clear H0
    obtain ⟨k, f, hk, rfl, hrow, hf, hbel⟩ := hrel
    by_cases hlt : k < l.length
    · obtain ⟨b, off, rfl, hbb, hcc⟩ := hc (by omega)
      obtain ⟨s, hs⟩ : ∃ s, l[k]? = some s := ⟨_, List.getElem?_eq_getElem hlt⟩
      have c0 := hcc k s hs
      rw [← hbel.cell (p := ⟨b, off + k, none⟩) hbb] at c0
      have HN : Hid (RelT l w (.int .i64 ((k : Int) + 1)) (wr.setCell ⟨w.heap.size, k, none⟩ (.int .i64 s))) := RelT.step hlt hs hrow hf hbel
      obtain ⟨o, ho⟩ : ∃ o, wr.cell? ⟨w.heap.size, k, none⟩ = some o := ⟨_, hrow.cell hlt⟩
      have hfr := hrow.frozen k
      clear hs hcc hrow hf hbel
      go_wp2
      go_roundw
      case rel => exact HN.out
      case measure => simp [intOf]; omega
    · have hkl : k = l.length := by omega
      have HF : Hid (OIRow w.heap.size wr (.slice (some ⟨w.heap.size, 0, none⟩) l.length l.length) l) := oints_of_row hrow (fun i s hs => hf i s (by rw [hkl]; exact (List.getElem?_eq_some_iff.1 hs).1) hs) (Nat.le_refl _) (by unfold maxLen; omega)
      have HB : Hid (Below w.heap.size w wr) := hbel
      clear hrow hf hbel hkl
      go_wp2
      go_ret
      exact ⟨_, _, rfl, HF.out, HB.out⟩
set_option maxRecDepth 100000 in
set_option maxHeartbeats 800000 in
theorem eqInts_any (v u : Value) (l : List Int) (w : World) (hv : IRow w v l) (hu : IRow w u l) :
    Calls Tryd.prog 71 #[v, u] w fun e w' => e = .returned (.bool true) ∧ Below w.heap.size w w' := by
  obtain ⟨a, cap, rfl, hl, hc⟩ := hv
  obtain ⟨a2, cap2, rfl, _, hc2⟩ := hu
  unfold maxLen at hl
  have H0 : Hid (RelK l.length w (.int .i64 0) w) := ⟨0, Nat.zero_le _, rfl, Below.refl _ _⟩
  go_enter Tryd.func71, Tryd.ntmps71
  go_wp2
  go_loopw [5] (fun i wr => RelK l.length w i wr) (fun i _ => l.length - (intOf i).toNat)
  case atStart => exact H0.out
  case round =>
    clear H0
    obtain ⟨k, hk, rfl, hbel⟩ := hrel
    by_cases hlt : k < l.length
    · obtain ⟨b, off, rfl, hbb, hcc⟩ := hc (by omega)
      obtain ⟨b2, off2, rfl, hbb2, hcc2⟩ := hc2 (by omega)
      obtain ⟨s, hs⟩ : ∃ s, l[k]? = some s := ⟨_, List.getElem?_eq_getElem hlt⟩
      have c0 := hcc k s hs
      have c1 := hcc2 k s hs
      rw [← hbel.cell (p := ⟨b, off + k, none⟩) hbb] at c0
      rw [← hbel.cell (p := ⟨b2, off2 + k, none⟩) hbb2] at c1
      have hlt' : (k : Int) < (l.length : Int) := by omega
      clear hs hcc hcc2
      have HB : Hid (Below w.heap.size w wr) := hbel
      clear hbel
      go_wp2
      go_quiet (fail)
      go_wp2
      go_roundw
      case rel => exact ⟨k + 1, by omega, by go_num, drewN_below HB.out _⟩
      case measure => simp [intOf]; omega
    · go_wp2
      go_ret
      exact ⟨rfl, hbel⟩

set_option maxRecDepth 100000 in
theorem szInts_any (v : Value) (l : List Int) (left : Int) (w : World) (hv : IRow w v l) (h0 : 0 ≤ left) (h1 : left ≤ 1048576) :
    Calls Tryd.prog 69 #[v, .int .i64 left] w fun e w' => ∃ r, e = .returned (.int .i64 r) ∧ (r < 0 ∨ (0 ≤ r ∧ r ≤ left ∧ (l.length : Int) ≤ left)) ∧ w = w' := by
  obtain ⟨a, cap, rfl, hl, hc⟩ := hv
  unfold maxLen at hl
  clear hc
  by_cases hb : left < l.length
  · go_enter Tryd.func69, Tryd.ntmps69
    go_wp2
    go_ret
    exact ⟨_, rfl, by omega, rfl⟩
  · go_enter Tryd.func69, Tryd.ntmps69
    go_wp2
    go_ret
    exact ⟨_, rfl, by omega, rfl⟩
end Go.Proofs.YtkpjdmmgdmbmnaaDoor.A6
