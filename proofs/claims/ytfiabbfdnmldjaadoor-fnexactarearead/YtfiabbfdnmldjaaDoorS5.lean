/-
  The laws' own marks, on: in rows of Pending; looked for; in whole disks.
-/
import Derived.Test.YtfiabbfdnmldjaaDoorS4
namespace Go.Proofs.YtfiabbfdnmldjaaDoor.S5
open Go.RowKit
open Go.Proofs.YtfiabbfdnmldjaaDoor.C0 Go.Proofs.YtfiabbfdnmldjaaDoor.S0 Go.Proofs.YtfiabbfdnmldjaaDoor.S1 Go.Proofs.YtfiabbfdnmldjaaDoor.Mk Go.Proofs.YtfiabbfdnmldjaaDoor.S4 Go.Proofs.YtfiabbfdnmldjaaDoor.S3

def RelQ (B k n : Nat) (v : Value) (w : World) (q i : Value) (wr : World) : Prop :=
  ∃ (j : Nat) (l : List Pend), j ≤ n ∧ i = .int .i64 j ∧ q = .int .i64 ((k + j * 2 : Nat) : Int) ∧ l.length = n ∧ (∀ m, m < j → l[m]? = some (((k + m * 2 : Nat) : Int), markOf (k + m * 2 + 1))) ∧ OPends B wr v l ∧ Wrote (mine v) w wr
theorem RelQ.step {B k n j cap g : Nat} {w wr w1 : World} {l : List Pend} (hj : j < n) (hl : l.length = n) (hm : ∀ m, m < j → l[m]? = some (((k + m * 2 : Nat) : Int), markOf (k + m * 2 + 1))) (ho : OPends B wr (.slice (some ⟨g, 0, none⟩) n cap) l) (ht : Wrote (mine (.slice (some ⟨g, 0, none⟩) n cap)) w wr)
    (h1 : Below (wr.setCell ⟨g, j * 2, none⟩ (.int .i64 ((k + j * 2 : Nat) : Int))).heap.size (wr.setCell ⟨g, j * 2, none⟩ (.int .i64 ((k + j * 2 : Nat) : Int))) w1) :
    RelQ B k n (.slice (some ⟨g, 0, none⟩) n cap) w (.int .i64 ((k + (j + 1) * 2 : Nat) : Int)) (.int .i64 ((j + 1 : Nat) : Int)) (w1.setCell ⟨g, j * 2 + 1, none⟩ (.string (markOf (k + j * 2 + 1)))) := by
  have hs := (World.ownsRow.stored (hl ▸ ho) (j * 2) (.int .i64 ((k + j * 2 : Nat) : Int))).1
  have hs1 := own_keep hs (fun g' hg' => h1.block g' (hs.lt g' hg').2)
  have hs2 := (World.ownsRow.stored hs1 (j * 2 + 1) (.string (markOf (k + j * 2 + 1)))).1
  refine ⟨j + 1, l.set j (((k + j * 2 : Nat) : Int), markOf (k + j * 2 + 1)), by omega, rfl, rfl, by rw [List.length_set]; exact hl, fun m h => ?_, ?_, ((ht.setCell (p := ⟨g, j * 2, none⟩) (.inr rfl) _).trans (Wrote.of_below h1)).setCell (p := ⟨g, j * 2 + 1, none⟩) (.inr rfl) _⟩
  · rw [List.getElem?_set]
    by_cases e : j = m
    · subst e; rw [if_pos rfl, if_pos (by omega)]
    · rw [if_neg e]; exact hm m (by omega)
  · unfold OPends
    rw [cp_set, List.length_set, hl]
    rw [hl] at hs2
    exact hs2
set_option maxRecDepth 100000 in
set_option maxHeartbeats 1600000 in
theorem markPends_any (B k : Nat) (a : Option Addr) (cap : Nat) (l : List Pend) (w : World) (hv : OPends B w (.slice a l.length cap) l) (h1 : 0 < k) (h2 : k + l.length * 2 < 10000000) :
    Calls Tryd.prog 30 #[.slice a l.length cap, .int .i64 k] w fun e w' => e = .returned (.int .i64 ((k + l.length * 2 : Nat) : Int)) ∧ OPends B w' (.slice a l.length cap) (marksP k l.length) ∧ Wrote (mine (.slice a l.length cap)) w w' := by
  have H0 : Hid (RelQ B k l.length (.slice a l.length cap) w (.int .i64 k) (.int .i64 0) w) := ⟨0, l, Nat.zero_le _, rfl, by simp, rfl, fun m h => by omega, hv, Wrote.refl _ _⟩
  obtain ⟨n, hn⟩ : ∃ n, l.length = n := ⟨_, rfl⟩
  rw [hn] at H0 h2 ⊢
  clear hv hn
  go_enter Tryd.func30, Tryd.ntmps30
  go_wp2
  go_loopw [1, 5] (fun q i wr => RelQ B k n (.slice a n cap) w q i wr) (fun _ i _ => n - (intOf i).toNat)
  case atStart => exact H0.out
  case round =>
    clear H0
    obtain ⟨j, l', hj, rfl, rfl, hl', hm, ho, ht⟩ := hrel
    by_cases hlt : j < n
    · obtain ⟨g, rfl, -, hBg, hgz⟩ := form_pends ho (by omega)
      have hlt' : (j : Int) < (n : Int) := by omega
      obtain ⟨x, hx⟩ : ∃ x, k + j * 2 = x := ⟨_, rfl⟩
      have HX : Hid (k + j * 2 = x) := hx
      have hxb : x < 10000000 := by omega
      have HN : Hid (∀ w1, Below (wr.setCell ⟨g, j * 2, none⟩ (.int .i64 (x : Int))).heap.size (wr.setCell ⟨g, j * 2, none⟩ (.int .i64 (x : Int))) w1 → RelQ B k n (.slice (some ⟨g, 0, none⟩) n cap) w (.int .i64 ((k + (j + 1) * 2 : Nat) : Int)) (.int .i64 ((j + 1 : Nat) : Int)) (w1.setCell ⟨g, j * 2 + 1, none⟩ (.string (markOf (x + 1))))) := fun w1 h => by
        rw [← hx] at h ⊢; exact RelQ.step hlt hl' hm ho ht h
      obtain ⟨⟨o0, ho0⟩, hf0⟩ := own_cell_p ho (j * 2) (by omega)
      have HO : Hid (∀ w1, Below (wr.setCell ⟨g, j * 2, none⟩ (.int .i64 (x : Int))).heap.size (wr.setCell ⟨g, j * 2, none⟩ (.int .i64 (x : Int))) w1 → (∃ o, w1.cell? ⟨g, j * 2 + 1, none⟩ = some o) ∧ w1.frozen? ⟨g, j * 2 + 1, none⟩ = false) := fun w1 h => by
        have hs := (World.ownsRow.stored (hl' ▸ ho) (j * 2) (.int .i64 (x : Int))).1
        have hs1 := own_keep hs (fun g' hg' => h.block g' (hs.lt g' hg').2)
        refine ⟨?_, World.ownsRow.frozenAt hs1 _⟩
        rw [World.ownsRow.cellAt hs1 _ (by omega)]
        exact ⟨_, List.getElem?_eq_getElem (by rw [List.length_set, cp_length]; omega)⟩
      rw [hx]
      clear hm ho ht hx
      go_wp2_with (first
        | (go_at_call 53; refine (markText_any (x + 1) _ (by omega) (by omega)).mono ?_; rintro e w1 ⟨rfl, hb1⟩; obtain ⟨⟨o, ho⟩, hfo⟩ := HO.out w1 hb1))
      go_roundw
      case rel =>
        have := HN.out w1 hb1
        have e1 : (x : Int) + 1 + 1 = ((k + (j + 1) * 2 : Nat) : Int) := by have := HX.out; omega
        rw [e1]
        simpa using this
      case measure => simp [intOf]; omega
    · obtain rfl : j = n := by omega
      have HF : Hid (OPends B wr (.slice a j cap) (marksP k j) ∧ Wrote (mine (.slice a j cap)) w wr) := by
        refine ⟨?_, ht⟩
        rw [show marksP k j = l' from ?_]; exact ho
        apply List.ext_getElem?
        intro i
        by_cases hi : i < j
        · rw [marksP_at _ _ _ hi, hm i hi]
        · rw [List.getElem?_eq_none (by rw [marksP_length]; omega), List.getElem?_eq_none (by omega)]
      clear hm ho ht
      go_wp2
      go_ret
      exact ⟨rfl, HF.out.1, HF.out.2⟩

def RelH (k n : Nat) (w : World) (q i : Value) (wr : World) : Prop := ∃ j : Nat, j ≤ n ∧ i = .int .i64 j ∧ q = .int .i64 ((k + j : Nat) : Int) ∧ Below w.heap.size w wr
set_option maxRecDepth 100000 in
set_option maxHeartbeats 1600000 in
theorem heldStrs_any (k n : Nat) (v : Value) (w : World) (hv : Strs w v (marksS k n)) (h1 : 0 < k) (h2 : k + n < 10000000) :
    Calls Tryd.prog 54 #[v, .int .i64 k] w fun e w' => e = .returned (.int .i64 ((k + n : Nat) : Int)) ∧ Below w.heap.size w w' := by
  have H0 : Hid (RelH k n w (.int .i64 k) (.int .i64 0) w) := ⟨0, Nat.zero_le _, rfl, by simp, Below.refl _ _⟩
  obtain ⟨a, cap, rfl, hl, hc⟩ := hv
  rw [marksS_length] at hc hl ⊢
  go_enter Tryd.func54, Tryd.ntmps54
  go_wp2
  go_loopw [1, 5] (fun q i wr => RelH k n w q i wr) (fun _ i _ => n - (intOf i).toNat)
  case atStart => exact H0.out
  case round =>
    clear H0
    obtain ⟨j, hj, rfl, rfl, hbel⟩ := hrel
    by_cases hlt : j < n
    · obtain ⟨b, off, rfl, hbb, hcc⟩ := hc (by omega)
      have hlt' : (j : Int) < (n : Int) := by omega
      have c0 := hcc j _ (marksS_at n k j hlt)
      rw [← hbel.cell (p := ⟨b, off + j, none⟩) hbb] at c0
      obtain ⟨x, hx⟩ : ∃ x, k + j = x := ⟨_, rfl⟩
      have HX : Hid (k + j = x) := hx
      have hxb : x < 10000000 := by omega
      have hx0 : 0 < x := by omega
      rw [hx] at c0 ⊢
      have HB : Hid (Below w.heap.size w wr) := hbel
      have HC : Hid (∀ w1, Below wr.heap.size wr w1 → w1.cell? ⟨b, off + j, none⟩ = some (.string (markOf x))) := fun w1 h => by
        rw [h.cell (p := ⟨b, off + j, none⟩) (by have := hbel.size; show b < _; omega)]; exact c0
      clear hcc hx hbel
      go_wp2
      go_region_with (go_at_call 53; refine (markText_any x _ hx0 (by omega)).mono ?_; rintro e w1 ⟨rfl, hb1⟩; have c1 := HC.out w1 ⟨hb1.os, hb1.tape, hb1.output, hb1.size, hb1.block⟩)
      all_goals
        go_wp2
        go_roundw
        case rel => exact ⟨j + 1, by omega, by go_num, by have := HX.out; have e1 : (x : Int) + 1 = ((k + (j + 1) : Nat) : Int) := (by omega); rw [e1], HB.out.drew.trans (hb1.mono HB.out.size)⟩
        case measure => simp [intOf]; omega
    · obtain rfl : j = n := by omega
      have HB : Hid (Below w.heap.size w wr) := hbel
      clear hbel
      go_wp2
      go_ret
      exact ⟨rfl, HB.out⟩
end Go.Proofs.YtfiabbfdnmldjaaDoor.S5
