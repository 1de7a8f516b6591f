/-
  Numbers and texts read one after another, in the specification.
-/
import Derived.Test.YteehgicnfageiaaDoorN4
import Derived.Test.YteehgicnfageiaaDoorCI
import Derived.Test.YteehgicnfageiaaDoorPX
import Derived.Deep.DeepCutAuto
namespace Go.Proofs.YteehgicnfageiaaDoor.Q3
open Go.RowKit
open Go.Proofs.YteehgicnfageiaaDoor.C0 Go.Proofs.YteehgicnfageiaaDoor.HB
open Go.Proofs.YteehgicnfageiaaDoor.CH Go.Proofs.YteehgicnfageiaaDoor.CK Go.Proofs.YteehgicnfageiaaDoor.N3 Go.Proofs.YteehgicnfageiaaDoor.N4

theorem blk3f {w : World} {g : Nat} {a b c : Value} {T : TypeId} (h : w.heap[g]? = some (.cells #[a, b, c] T (0, 0))) : w.cell? ⟨g, 0, none⟩ = some a ∧ w.cell? ⟨g, 1, none⟩ = some b ∧ w.cell? ⟨g, 2, none⟩ = some c ∧ (∀ o, w.frozen? ⟨g, o, none⟩ = false) :=
  ⟨by simp [World.cell?, h], by simp [World.cell?, h], by simp [World.cell?, h], fun o => by simp [World.frozen?, h]⟩
/-- A block of three cells, one of them written. -/
theorem heap_set {w : World} {g i : Nat} {cs : Array Value} {T : TypeId} {v : Value} (h : w.heap[g]? = some (.cells cs T (0, 0))) (hi : i < cs.size) : (w.setCell ⟨g, i, none⟩ v).heap[g]? = some (.cells (cs.setIfInBounds i v) T (0, 0)) := by
  have h0 : w.rowIs g T cs.size (fun j => (cs[j]?).getD undef) := ⟨cs, h, rfl, fun j hj => by show cs[j]? = some ((cs[j]?).getD undef); rw [Array.getElem?_eq_getElem hj]; rfl⟩
  obtain ⟨c, hb, hn, hc⟩ := h0.set i v
  rw [hb]
  congr 2
  apply Array.ext_getElem?
  intro j
  by_cases hj : j < cs.size
  · rw [hc j hj]
    by_cases hij : j = i
    · subst hij; simp [hj]
    · rw [Array.getElem?_setIfInBounds]
      rw [if_neg (by omega)]
      simp [hij, hj]
  · rw [Array.getElem?_eq_none (by omega), Array.getElem?_eq_none (by simp; omega)]
/-- Three cells of one's own, behind a pointer. -/
def Own3 (W : World) (T : TypeId) (a b c : Value) (s : Value) (wx : World) : Prop :=
  ∃ Y, s = .pointer (some ⟨Y, 0, none⟩) ∧ wx.heap[Y]? = some (.cells #[a, b, c] T (0, 0)) ∧ W.heap.size ≤ Y ∧ Below W.heap.size W wx
theorem Own3.fresh {W w3 : World} {T : TypeId} {a b c : Value} (hB : Below W.heap.size W w3) : Own3 W T a b c (.pointer (some ⟨w3.heap.size, 0, none⟩)) (w3.alloc (.cells #[a, b, c] T)) :=
  ⟨_, rfl, heap_alloc_new _ _, hB.size, bel2 hB (albel _ _)⟩
theorem Own3.laid {W w3 : World} {T : TypeId} {a b c d e f : Value} {Y : Nat} (hY : w3.heap[Y]? = some (.cells #[d, e, f] T (0, 0))) (hl : W.heap.size ≤ Y) (hB : Below W.heap.size W w3) :
    Own3 W T a b c (.pointer (some ⟨Y, 0, none⟩)) (((w3.setCell ⟨Y, 0, none⟩ a).setCell ⟨Y, 1, none⟩ b).setCell ⟨Y, 2, none⟩ c) :=
  ⟨Y, rfl, heap_set (heap_set (heap_set hY (by simp)) (by simp)) (by simp), hl, ((hB.setCell hl _).setCell hl _).setCell hl _⟩
/-- A reader's block. -/
def rdB (s : ByteArray) (q : Int × Bool) : Obj := .cells #[.string s, .int .i64 q.1, .bool q.2] 92 (0, 0)
theorem num_wrap {s : ByteArray} {a : Int} {b : Bool} {n : Int} {A c : Nat} (h : tr s a = (n, A, c)) : rdNum s (a, b) = if b = false ∧ c = 0 then (n, ((A : Nat) : Int), false) else (0, a, true) := by unfold rdNum; dsimp only; rw [h]
theorem text_wrap {s : ByteArray} {a : Int} {b : Bool} {t : ByteArray} {A : Int} {c : Nat} (h : tx s a = (t, A, c)) : rdText s (a, b) = if b = false ∧ c = 0 then (t, A, false) else (⟨#[]⟩, a, true) := by unfold rdText; dsimp only; rw [h]
set_option maxRecDepth 100000 in
set_option maxHeartbeats 3200000 in
theorem num_spec (g : Nat) (s : ByteArray) (a : Int) (b : Bool) (w : World) (k : w.heap[g]? = some (rdB s (a, b))) (hs : s.size ≤ 8000) (h0 : 0 ≤ a) (h1 : a ≤ 8000) :
    Calls Tryd.prog 68 #[.pointer (some ⟨g, 0, none⟩)] w fun e w' => e = .returned (.int .i64 (rdNum s (a, b)).1) ∧ w'.heap[g]? = some (rdB s (rdNum s (a, b)).2) ∧ w.grownBy w' (some g) := by
  have hlt := lt_some k
  unfold rdB at k
  obtain ⟨q0, q1, q2, qf⟩ := blk3f k
  obtain ⟨n, A, c, hT⟩ : ∃ n A c, tr s a = (n, A, c) := ⟨_, _, _, rfl⟩
  have HR : Hid (rdNum s (a, b) = if b = false ∧ c = 0 then (n, ((A : Nat) : Int), false) else (0, a, true)) := num_wrap hT
  have HG : Hid (∀ W, Calls Tryd.prog 92 #[.string s, .int .i64 a] W fun e w' => e = .returned (.agg #[.int .i64 n, .int .i64 (A : Nat), .int .i64 (c : Nat)]) ∧ Below W.heap.size W w') := fun W => by
    have h := CI.get_spec s a W (by unfold maxLen; omega) (by omega) (by omega)
    rw [tr_num] at h; unfold numOut at h
    rw [hT] at h
    exact h
  have KH : Hid (w.heap[g]? = some (.cells #[.string s, .int .i64 a, .bool b] 92 (0, 0))) := k
  have HI : Hid (1 ≤ c → ¬ c = 0) := fun h => by omega
  clear hT k
  go_enter Tryd.func68, Tryd.ntmps68
  go_wp2_with fail
  go_cut [3] (fun x wx => Own3 w 109 (.int .i64 n) (.int .i64 (A : Nat)) (.int .i64 (c : Nat)) x wx)
  case first =>
    go_region_with (first
      | (go_at_call 92
         refine (HG.out _).mono ?_
         rintro e wn ⟨rfl, hbn⟩
         have BN : Below w.heap.size w wn := (by first | exact undrew hbn | exact bel2 (albel _ _) (undrew hbn))
         first
           | (have KY := carry (heap_alloc_new w (.cells #[.int .i64 0, .int .i64 0, .int .i64 0] 109)) (undrew hbn); have YL := Nat.le_refl w.heap.size; obtain ⟨y0, y1, y2, yf⟩ := blk3f KY)
           | skip))
    all_goals
      go_wp2_with fail
      go_meet
      case rel => first | (with_reducible exact Own3.laid KY YL BN) | (with_reducible exact Own3.fresh BN)
  case rest =>
    obtain ⟨Y, rfl, KY, hYl, hBY⟩ := hcut
    have KG := carry KH.out hBY
    obtain ⟨y0, y1, y2, yf⟩ := blk3f KY
    clear q0 q1 q2 qf
    obtain ⟨q0, q1, q2, qf⟩ := blk3f KG
    have hG : Hid (w.grownBy wc (some g)) := PX.grown_of hBY
    have hGB : ∀ i v, Hid (w.grownBy (wc.setCell ⟨g, i, none⟩ v) (some g)) := fun i v => by
      refine ⟨hG.out.1, hG.out.2, hG.out.3, by rw [World.size_setCell]; exact hG.out.4, fun k hk hne => ?_⟩
      rw [heap_setCell_other _ _ _ _ (fun e => hne (by rw [e]))]
      exact hG.out.5 k hk hne
    have hne : g ≠ Y := by omega
    cases b with
    | true =>
      have HX : Hid (rdNum s (a, true) = (0, a, true)) := by unfold Hid; rw [HR.out, if_neg (by simp)]
      have HF : Hid ((wc.setCell ⟨g, 2, none⟩ (.bool true)).heap[g]? = some (rdB s (a, true))) := heap_set KG (by simp)
      clear KG KY hBY
      go_wp2
      go_ret
      exact ⟨by rw [HX.out]; rfl, by rw [HX.out]; exact HF.out, (hGB _ _).out⟩
    | false =>
      by_cases hc : c = 0
      · have HX : Hid (rdNum s (a, false) = (n, ((A : Nat) : Int), false)) := by unfold Hid; rw [HR.out, if_pos ⟨rfl, hc⟩]
        have HF : Hid ((wc.setCell ⟨g, 1, none⟩ (.int .i64 (A : Nat))).heap[g]? = some (rdB s (((A : Nat) : Int), false))) := heap_set KG (by simp)
        have t0 : (((c : Nat) : Int) != 0) = false := by simp [hc]
        clear KG KY hBY
        subst hc
        go_wp2
        go_ret
        exact ⟨by rw [HX.out]; rfl, by rw [HX.out]; exact HF.out, (hGB _ _).out⟩
      · have HX : Hid (rdNum s (a, false) = (0, a, true)) := by unfold Hid; rw [HR.out, if_neg (fun h => hc h.2)]
        have HF : Hid ((wc.setCell ⟨g, 2, none⟩ (.bool true)).heap[g]? = some (rdB s (a, true))) := heap_set KG (by simp)
        have t0 : (((c : Nat) : Int) != 0) = true := by simp [hc]
        clear KG KY hBY
        go_wp2
        go_ret
        exact ⟨by rw [HX.out]; rfl, by rw [HX.out]; exact HF.out, (hGB _ _).out⟩
set_option maxRecDepth 100000 in
set_option maxHeartbeats 3200000 in
theorem text_spec (g : Nat) (s : ByteArray) (a : Int) (b : Bool) (w : World) (k : w.heap[g]? = some (rdB s (a, b))) (hs : s.size ≤ 8000) (h0 : 0 ≤ a) (h1 : a ≤ 8000) :
    Calls Tryd.prog 69 #[.pointer (some ⟨g, 0, none⟩)] w fun e w' => e = .returned (.string (rdText s (a, b)).1) ∧ w'.heap[g]? = some (rdB s (rdText s (a, b)).2) ∧ w.grownBy w' (some g) := by
  have hlt := lt_some k
  unfold rdB at k
  obtain ⟨q0, q1, q2, qf⟩ := blk3f k
  obtain ⟨n, A, c, hT⟩ : ∃ n A c, tx s a = (n, A, c) := ⟨_, _, _, rfl⟩
  have HR : Hid (rdText s (a, b) = if b = false ∧ c = 0 then (n, A, false) else (⟨#[]⟩, a, true)) := text_wrap hT
  have HG : Hid (∀ W, Calls Tryd.prog 93 #[.string s, .int .i64 a] W fun e w' => e = .returned (.agg #[.string n, .int .i64 A, .int .i64 (c : Nat)]) ∧ Below W.heap.size W w') := fun W => by
    have h := CK.get_spec s a W (by unfold maxLen; omega) (by omega) (by omega)
    unfold textOf textOut at h
    rw [hT] at h
    exact h
  have KH : Hid (w.heap[g]? = some (.cells #[.string s, .int .i64 a, .bool b] 92 (0, 0))) := k
  have HI : Hid (1 ≤ c → ¬ c = 0) := fun h => by omega
  clear hT k
  go_enter Tryd.func69, Tryd.ntmps69
  go_wp2_with fail
  go_cut [3] (fun x wx => Own3 w 77 (.string n) (.int .i64 A) (.int .i64 (c : Nat)) x wx)
  case first =>
    go_region_with (first
      | (go_at_call 93
         refine (HG.out _).mono ?_
         rintro e wn ⟨rfl, hbn⟩
         have BN : Below w.heap.size w wn := (by first | exact undrew hbn | exact bel2 (albel _ _) (undrew hbn))
         first
           | (have KY := carry (heap_alloc_new w (.cells #[.string ⟨#[]⟩, .int .i64 0, .int .i64 0] 77)) (undrew hbn); have YL := Nat.le_refl w.heap.size; obtain ⟨y0, y1, y2, yf⟩ := blk3f KY)
           | skip))
    all_goals
      go_wp2_with fail
      go_meet
      case rel => first | (with_reducible exact Own3.laid KY YL BN) | (with_reducible exact Own3.fresh BN)
  case rest =>
    obtain ⟨Y, rfl, KY, hYl, hBY⟩ := hcut
    have KG := carry KH.out hBY
    obtain ⟨y0, y1, y2, yf⟩ := blk3f KY
    clear q0 q1 q2 qf
    obtain ⟨q0, q1, q2, qf⟩ := blk3f KG
    have hG : Hid (w.grownBy wc (some g)) := PX.grown_of hBY
    have hGB : ∀ i v, Hid (w.grownBy (wc.setCell ⟨g, i, none⟩ v) (some g)) := fun i v => by
      refine ⟨hG.out.1, hG.out.2, hG.out.3, by rw [World.size_setCell]; exact hG.out.4, fun k hk hne => ?_⟩
      rw [heap_setCell_other _ _ _ _ (fun e => hne (by rw [e]))]
      exact hG.out.5 k hk hne
    have hne : g ≠ Y := by omega
    cases b with
    | true =>
      have HX : Hid (rdText s (a, true) = (⟨#[]⟩, a, true)) := by unfold Hid; rw [HR.out, if_neg (by simp)]
      have HF : Hid ((wc.setCell ⟨g, 2, none⟩ (.bool true)).heap[g]? = some (rdB s (a, true))) := heap_set KG (by simp)
      clear KG KY hBY
      go_wp2
      go_ret
      exact ⟨by rw [HX.out]; rfl, by rw [HX.out]; exact HF.out, (hGB _ _).out⟩
    | false =>
      by_cases hc : c = 0
      · have HX : Hid (rdText s (a, false) = (n, A, false)) := by unfold Hid; rw [HR.out, if_pos ⟨rfl, hc⟩]
        have HF : Hid ((wc.setCell ⟨g, 1, none⟩ (.int .i64 A)).heap[g]? = some (rdB s (A, false))) := heap_set KG (by simp)
        have t0 : (((c : Nat) : Int) != 0) = false := by simp [hc]
        clear KG KY hBY
        subst hc
        go_wp2
        go_ret
        exact ⟨by rw [HX.out]; rfl, by rw [HX.out]; exact HF.out, (hGB _ _).out⟩
      · have HX : Hid (rdText s (a, false) = (⟨#[]⟩, a, true)) := by unfold Hid; rw [HR.out, if_neg (fun h => hc h.2)]
        have HF : Hid ((wc.setCell ⟨g, 2, none⟩ (.bool true)).heap[g]? = some (rdB s (a, true))) := heap_set KG (by simp)
        have t0 : (((c : Nat) : Int) != 0) = true := by simp [hc]
        clear KG KY hBY
        go_wp2
        go_ret
        exact ⟨by rw [HX.out]; rfl, by rw [HX.out]; exact HF.out, (hGB _ _).out⟩
end Go.Proofs.YteehgicnfageiaaDoor.Q3
