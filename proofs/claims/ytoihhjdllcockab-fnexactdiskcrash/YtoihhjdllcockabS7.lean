/-
  Rows of numbers: the laws' own copying, comparing and marking of them.
-/
import Derived.Test.YtoihhjdllcockabTC
namespace Go.Proofs.Ytoihhjdllcockab.S7
open Go.RowKit
open Go.Proofs.Ytoihhjdllcockab.C0 Go.Proofs.Ytoihhjdllcockab.S0 Go.Proofs.Ytoihhjdllcockab.S1 Go.Proofs.Ytoihhjdllcockab.S3 Go.Proofs.Ytoihhjdllcockab.S4 Go.Proofs.Ytoihhjdllcockab.O1 Go.Proofs.Ytoihhjdllcockab.TC
theorem info_i64 : (Try.prog.info? 2).map (fun i => (i.zero, i.size, i.bytes)) = some (some (.int .i64 0), 1, 8) := by kernel_rfl
def ci (l : List Int) : List Value := l.map (.int .i64)
theorem ci_length (l : List Int) : (ci l).length = l.length * 1 := by simp [ci]
def OInts (B : Nat) (w : World) (v : Value) (l : List Int) : Prop := w.ownsRow B 2 1 v l.length (ci l)
theorem OInts.ints {B : Nat} {w : World} {v : Value} {l : List Int} (h : OInts B w v l) : Ints w v l := by
  have h' := h
  rcases h.2 with ⟨rfl, h0⟩ | ⟨g, cap, cur, rfl, hb, hg, hnc, hcm, hcs, htake⟩
  · exact ⟨none, 0, by rw [h0], by rw [h0]; exact Nat.zero_le _, fun q => by omega⟩
  · refine ⟨_, cap, rfl, by omega, fun _ => ⟨g, 0, rfl, (Array.getElem?_eq_some_iff.1 hg).1, fun i s hs => ?_⟩⟩
    have := World.ownsRow.cells h' rfl i (.int .i64 s) (by simp [ci, hs])
    rwa [add0] at this
theorem OInts.below {B : Nat} {w w' : World} {v : Value} {l : List Int} (h : OInts B w v l) (hb : Below w.heap.size w w') : OInts B w' v l :=
  own_keep h fun g hg => hb.block g (h.lt g hg).2
theorem OInts.touch {S : Nat → Prop} {B : Nat} {w w' : World} {v : Value} {l : List Int} (h : OInts B w v l) (ht : Wrote S w w') (hS : ∀ g, v.ownBlock = some g → ¬ S g) : OInts B w' v l :=
  own_keep h fun g hg => ht.block g (h.lt g hg).2 (hS g hg)
theorem oints_of_row {B b : Nat} {w : World} {l : List Int} {f : Nat → Value} (h : w.rowIs b 2 l.length f) (hf : ∀ i s, l[i]? = some s → f i = .int .i64 s) (hB : B ≤ b) (hm : l.length ≤ maxLen) :
    OInts B w (.slice (some ⟨b, 0, none⟩) l.length l.length) l := by
  obtain ⟨c, hb, hn, hc⟩ := h
  refine ⟨ci_length l, .inr ⟨b, l.length, c, rfl, hB, hb, Nat.le_refl _, hm, by omega, ?_⟩⟩
  apply List.ext_getElem?
  intro i
  rw [List.getElem?_take]
  by_cases hi : i < l.length
  · obtain ⟨s, hs⟩ : ∃ s, l[i]? = some s := ⟨_, List.getElem?_eq_getElem hi⟩
    rw [if_pos (by omega)]
    have := hc i hi
    rw [hf i s hs] at this
    simp [ci, hs] at this ⊢
    exact this
  · rw [if_neg (by omega), List.getElem?_eq_none (by rw [ci_length]; omega)]
def RelT (l : List Int) (w0 : World) (i : Value) (wr : World) : Prop :=
  ∃ (k : Nat) (f : Nat → Value), k ≤ l.length ∧ i = .int .i64 k ∧ wr.rowIs w0.heap.size 2 l.length f ∧ (∀ j s, j < k → l[j]? = some s → f j = .int .i64 s) ∧ Below w0.heap.size w0 wr
theorem RelT.step {l : List Int} {w0 wr : World} {k : Nat} {f : Nat → Value} {s : Int} (hk : k < l.length) (hs : l[k]? = some s) (hrow : wr.rowIs w0.heap.size 2 l.length f) (hf : ∀ j s, j < k → l[j]? = some s → f j = .int .i64 s) (hb : Below w0.heap.size w0 wr) :
    RelT l w0 (.int .i64 ((k : Int) + 1)) (wr.setCell ⟨w0.heap.size, k, none⟩ (.int .i64 s)) := by
  refine ⟨k + 1, _, by omega, by simp, hrow.set _ _, fun j t hj ht => ?_, hb.setCell (Nat.le_refl _) _⟩
  show (if j = k then _ else f j) = _
  by_cases e : j = k
  · subst e; rw [if_pos rfl]; rw [hs] at ht; cases ht; rfl
  · rw [if_neg e]; exact hf j t (by omega) ht
set_option maxRecDepth 100000 in
set_option maxHeartbeats 800000 in
theorem toInts_any (v : Value) (l : List Int) (w : World) (hv : Ints w v l) (hz : l.length ≤ 1048576) :
    Calls Try.prog 7 #[v] w fun e w' => ∃ a cap, e = .returned (.slice a l.length cap) ∧ OInts w.heap.size w' (.slice a l.length cap) l ∧ Below w.heap.size w w' := by
  obtain ⟨a, cap, rfl, hl, hc⟩ := hv
  have hmk := run_make_row' (P := Try.prog) 26 2 (.int .i64 0) 8 Try.underlying26 info_i64 rfl .i64 .i64 l.length (by omega) (by omega)
  have hrow0 : (w.alloc (.cells (madeCells #[Value.int .i64 0] l.length) 2)).rowIs w.heap.size 2 l.length (fun _ => .int .i64 0) :=
    ⟨_, Go.Deep.blk_alloc_new _ _, by rw [size_madeCells], fun i hi => by simp [madeCells, hi, Nat.mod_one]⟩
  have H0 : Hid (RelT l w (.int .i64 0) (w.alloc (.cells (madeCells #[Value.int .i64 0] l.length) 2))) := ⟨0, _, Nat.zero_le _, rfl, hrow0, fun j s h => by omega, (Below.refl _ _).alloc (Nat.le_refl _) _⟩
  clear hrow0
  go_enter Try.func7, Try.ntmps7
  go_wp2
  clear hmk
  go_loopw [4] (fun i wr => RelT l w i wr) (fun i _ => l.length - (intOf i).toNat)
  case atStart => exact H0.out
  case round =>
    clear H0
    obtain ⟨k, f, hk, rfl, hrow, hf, hbel⟩ := hrel
    by_cases hlt : k < l.length
    · obtain ⟨b, off, rfl, hbb, hcc⟩ := hc (by omega)
      obtain ⟨s, hs⟩ : ∃ s, l[k]? = some s := ⟨_, List.getElem?_eq_getElem hlt⟩
      have c0 := hcc k s hs
      rw [← hbel.cell (p := ⟨b, off + k, none⟩) hbb] at c0
      have HN : Hid (RelT l w (.int .i64 ((k : Int) + 1)) (wr.setCell ⟨w.heap.size, k, none⟩ (.int .i64 s))) := RelT.step hlt hs hrow hf hbel
      obtain ⟨o, ho⟩ : ∃ o, wr.cell? ⟨w.heap.size, k, none⟩ = some o := ⟨_, hrow.cell hlt⟩
      have hfr := hrow.frozen k
      clear hs hcc hrow hf hbel
      go_wp2
      go_roundw
      case rel => exact HN.out
      case measure => simp [intOf]; omega
    · have hkl : k = l.length := by omega
      have HF : Hid (OInts w.heap.size wr (.slice (some ⟨w.heap.size, 0, none⟩) l.length l.length) l) := oints_of_row hrow (fun i s hs => hf i s (by rw [hkl]; exact (List.getElem?_eq_some_iff.1 hs).1) hs) (Nat.le_refl _) (by unfold maxLen; omega)
      have HB : Hid (Below w.heap.size w wr) := hbel
      clear hrow hf hbel hkl
      go_wp2
      go_ret
      exact ⟨_, _, rfl, HF.out, HB.out⟩
set_option maxRecDepth 100000 in
set_option maxHeartbeats 800000 in
theorem eqInts_any (v u : Value) (l : List Int) (w : World) (hv : Ints w v l) (hu : Ints w u l) :
    Calls Try.prog 10 #[v, u] w fun e w' => e = .returned (.bool true) ∧ Below w.heap.size w w' := by
  obtain ⟨a, cap, rfl, hl, hc⟩ := hv
  obtain ⟨a2, cap2, rfl, _, hc2⟩ := hu
  unfold maxLen at hl
  have H0 : Hid (RelK l.length w (.int .i64 0) w) := ⟨0, Nat.zero_le _, rfl, Below.refl _ _⟩
  go_enter Try.func10, Try.ntmps10
  go_wp2
  go_loopw [5] (fun i wr => RelK l.length w i wr) (fun i _ => l.length - (intOf i).toNat)
  case atStart => exact H0.out
  case round =>
    clear H0
    obtain ⟨k, hk, rfl, hbel⟩ := hrel
    by_cases hlt : k < l.length
    · obtain ⟨b, off, rfl, hbb, hcc⟩ := hc (by omega)
      obtain ⟨b2, off2, rfl, hbb2, hcc2⟩ := hc2 (by omega)
      obtain ⟨s, hs⟩ : ∃ s, l[k]? = some s := ⟨_, List.getElem?_eq_getElem hlt⟩
      have c0 := hcc k s hs
      have c1 := hcc2 k s hs
      rw [← hbel.cell (p := ⟨b, off + k, none⟩) hbb] at c0
      rw [← hbel.cell (p := ⟨b2, off2 + k, none⟩) hbb2] at c1
      have hlt' : (k : Int) < (l.length : Int) := by omega
      clear hs hcc hcc2
      have HB : Hid (Below w.heap.size w wr) := hbel
      clear hbel
      go_wp2
      go_quiet (fail)
      go_wp2
      go_roundw
      case rel => exact ⟨k + 1, by omega, by go_num, drewN_below HB.out _⟩
      case measure => simp [intOf]; omega
    · go_wp2
      go_ret
      exact ⟨rfl, hbel⟩
def RelM (B k n : Nat) (v : Value) (w : World) (q i : Value) (wr : World) : Prop :=
  ∃ (j : Nat) (l : List Int), j ≤ n ∧ i = .int .i64 j ∧ q = .int .i64 ((k + j : Nat) : Int) ∧ l.length = n ∧ OInts B wr v l ∧ Wrote (mine v) w wr
theorem form_ints {B : Nat} {w : World} {a : Option Addr} {n cap : Nat} {l : List Int} (h : OInts B w (.slice a n cap) l) (h0 : 0 < l.length) : ∃ g, a = some ⟨g, 0, none⟩ ∧ n = l.length ∧ B ≤ g ∧ g < w.heap.size := by
  rcases h.2 with ⟨_, h1⟩ | ⟨g, cap', cur, h1, hb, hg, _⟩
  · omega
  · simp only [Value.slice.injEq] at h1
    exact ⟨g, h1.1, h1.2.1, hb, (Array.getElem?_eq_some_iff.1 hg).1⟩
theorem RelM.step {B k n j cap g : Nat} {w wr : World} {l : List Int} (hj : j < n) (hl : l.length = n) (ho : OInts B wr (.slice (some ⟨g, 0, none⟩) n cap) l) (ht : Wrote (mine (.slice (some ⟨g, 0, none⟩) n cap)) w wr) :
    RelM B k n (.slice (some ⟨g, 0, none⟩) n cap) w (.int .i64 ((k : Int) + (j : Int) + 1)) (.int .i64 ((j : Int) + 1)) (wr.setCell ⟨g, j, none⟩ (.int .i64 ((k + j : Nat) : Int))) := by
  refine ⟨j + 1, l.set j ((k + j : Nat) : Int), by omega, by simp, by simp; omega, by rw [List.length_set]; exact hl, ?_, ht.setCell (p := ⟨g, j, none⟩) (.inr rfl) _⟩
  subst hl
  have := (World.ownsRow.stored ho j (.int .i64 ((k + j : Nat) : Int))).1
  unfold OInts
  rw [List.length_set, show ci (l.set j ((k + j : Nat) : Int)) = (ci l).set j (.int .i64 ((k + j : Nat) : Int)) by simp [ci, List.map_set]]
  exact this
theorem own_cell_i {B g n cap : Nat} {w : World} {l : List Int} (h : OInts B w (.slice (some ⟨g, 0, none⟩) n cap) l) (j : Nat) (hj : j < l.length) : (∃ o, w.cell? ⟨g, j, none⟩ = some o) ∧ w.frozen? ⟨g, j, none⟩ = false := by
  obtain ⟨b, hb, hn, _⟩ := form_ints h (by omega)
  subst hn
  refine ⟨?_, World.ownsRow.frozenAt h j⟩
  rw [World.ownsRow.cellAt h j (by omega)]
  exact ⟨_, List.getElem?_eq_getElem (by rw [ci_length]; omega)⟩
set_option maxRecDepth 100000 in
set_option maxHeartbeats 800000 in
theorem markInts_any (B k : Nat) (a : Option Addr) (cap : Nat) (l : List Int) (w : World) (hv : OInts B w (.slice a l.length cap) l) (h1 : 0 < k) (h2 : k + l.length < 10000000) :
    Calls Try.prog 12 #[.slice a l.length cap, .int .i64 k] w fun e w' => e = .returned (.int .i64 ((k + l.length : Nat) : Int)) ∧ Wrote (mine (.slice a l.length cap)) w w' := by
  have H0 : Hid (RelM B k l.length (.slice a l.length cap) w (.int .i64 k) (.int .i64 0) w) := ⟨0, l, Nat.zero_le _, rfl, by simp, rfl, hv, Wrote.refl _ _⟩
  obtain ⟨n, hn⟩ : ∃ n, l.length = n := ⟨_, rfl⟩
  rw [hn] at H0 h2 ⊢
  clear hv hn
  go_enter Try.func12, Try.ntmps12
  go_wp2
  go_loopw [1, 5] (fun q i wr => RelM B k n (.slice a n cap) w q i wr) (fun _ i _ => n - (intOf i).toNat)
  case atStart => exact H0.out
  case round =>
    clear H0
    obtain ⟨j, l', hj, rfl, rfl, hl', ho, ht⟩ := hrel
    by_cases hlt : j < n
    · obtain ⟨g, rfl, -, hBg, hgz⟩ := form_ints ho (by omega)
      have hlt' : (j : Int) < (n : Int) := by omega
      have HN : Hid (RelM B k n (.slice (some ⟨g, 0, none⟩) n cap) w (.int .i64 ((k : Int) + (j : Int) + 1)) (.int .i64 ((j : Int) + 1)) (wr.setCell ⟨g, j, none⟩ (.int .i64 ((k + j : Nat) : Int)))) := RelM.step hlt hl' ho ht
      obtain ⟨⟨o, hoo⟩, hfo⟩ := own_cell_i ho j (by omega)
      clear ho ht hl'
      go_wp2
      go_roundw
      case rel => simpa using HN.out
      case measure => simp [intOf]; omega
    · obtain rfl : j = n := by omega
      have HF : Hid (Wrote (mine (.slice a j cap)) w wr) := ht
      clear ho ht hl'
      go_wp2
      go_ret
      exact ⟨rfl, HF.out⟩
end Go.Proofs.Ytoihhjdllcockab.S7
