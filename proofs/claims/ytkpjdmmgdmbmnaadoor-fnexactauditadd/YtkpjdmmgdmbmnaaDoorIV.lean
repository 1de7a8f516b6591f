/-
  The laws' own marks in rows of lines: laid, and looked for.
-/
import Derived.Test.YtkpjdmmgdmbmnaaDoorIN
namespace Go.Proofs.YtkpjdmmgdmbmnaaDoor.IV
open Go.RowKit
open Go.Proofs.YtkpjdmmgdmbmnaaDoor.C0 Go.Proofs.YtkpjdmmgdmbmnaaDoor.HB Go.Proofs.YtkpjdmmgdmbmnaaDoor.Mk
open Go.Proofs.YtkpjdmmgdmbmnaaDoor.A0 Go.Proofs.YtkpjdmmgdmbmnaaDoor.A1 Go.Proofs.YtkpjdmmgdmbmnaaDoor.A4 Go.Proofs.YtkpjdmmgdmbmnaaDoor.I1 Go.Proofs.YtkpjdmmgdmbmnaaDoor.IE Go.Proofs.YtkpjdmmgdmbmnaaDoor.IF Go.Proofs.YtkpjdmmgdmbmnaaDoor.IN
open Go.Proofs.YtkpjdmmgdmbmnaaDoor.A6 (OIRow ci ci_length drewN_below add0)
/-- The number of the mark that the j-th line begins with. -/
def upK (l : List Ln) (k : Nat) : Nat → Nat
  | 0 => k
  | j + 1 => upK l k j + 3 + (lAt l j).cards.length
def mkLn (l : List Ln) (k j : Nat) : Ln := ⟨(upK l k j : Nat), mkOf (upK l k j + 1), mkOf (upK l k j + 2), mkI (upK l k j + 3) (lAt l j).cards.length⟩
/-- The lines, marked. -/
def mkL (l : List Ln) (k : Nat) : List Ln := (List.range l.length).map (mkLn l k)
theorem mkL_length (l : List Ln) (k : Nat) : (mkL l k).length = l.length := by simp [mkL]
theorem mkL_at (l : List Ln) (k j : Nat) (h : j < l.length) : (mkL l k)[j]? = some (mkLn l k j) := by simp [mkL, h]
theorem lAt_mkL (l : List Ln) (k j : Nat) (h : j < l.length) : lAt (mkL l k) j = mkLn l k j := by
  unfold lAt
  rw [List.getD_eq_getElem?_getD, mkL_at l k j h]; rfl
theorem upK_ge (l : List Ln) (k : Nat) : ∀ j, k ≤ upK l k j
  | 0 => Nat.le_refl _
  | j + 1 => by have := upK_ge l k j; unfold upK; omega
theorem upK_le (l : List Ln) (k : Nat) (hc : ∀ x ∈ l, x.cards.length ≤ 1048576) : ∀ j, j ≤ l.length → upK l k j ≤ k + j * 1048579
  | 0, _ => by unfold upK; omega
  | j + 1, h => by
    have h1 := upK_le l k hc j (by omega)
    have h2 := hc _ (List.mem_of_getElem? (lAt_get (l := l) (k := j) (by omega)))
    unfold upK; omega
def cur (l : List Ln) (k j m : Nat) : Ln := if m < j then mkLn l k m else lAt l m
theorem cur_len (l : List Ln) (k j m : Nat) : (cur l k j m).cards.length = (lAt l m).cards.length := by
  unfold cur
  split
  · exact mkI_length _ _
  · rfl
theorem flat_set (f : Nat → Ln × Value) (n j : Nat) (hj : j < n) (x : Ln) :
    (((flatL f n).set (j * 4) (.int .i64 x.kind)).set (j * 4 + 1) (.string x.name)).set (j * 4 + 2) (.string x.sum) = flatL (fun m => if m = j then (x, (f j).2) else f m) n := by
  apply List.ext_getElem?
  intro i
  by_cases hi : i < n * 4
  · obtain ⟨q, r, rfl, hq, hr⟩ : ∃ q r, i = q * 4 + r ∧ q < n ∧ r < 4 := ⟨i / 4, i % 4, by omega, by omega, by omega⟩
    rw [flat_at _ n q r hq hr]
    simp only [List.getElem?_set, List.length_set, flat_length]
    by_cases e : q = j
    · subst e
      rw [if_pos rfl]
      obtain rfl | rfl | rfl | rfl : r = 0 ∨ r = 1 ∨ r = 2 ∨ r = 3 := by omega
      · rw [if_neg (by omega), if_neg (by omega), if_pos (by omega), if_pos (by omega)]; rfl
      · rw [if_neg (by omega), if_pos (by omega), if_pos (by omega)]; rfl
      · rw [if_pos (by omega), if_pos (by omega)]; rfl
      · rw [if_neg (by omega), if_neg (by omega), if_neg (by omega), flat_at f n q 3 hq (by omega)]; rfl
    · rw [if_neg e, if_neg (by omega), if_neg (by omega), if_neg (by omega), flat_at f n q r hq hr]
  · rw [List.getElem?_eq_none (by simp [flat_length]; omega), List.getElem?_eq_none (by rw [flat_length]; omega)]
/-- Lines under way: the row's cells, and the numbers' rows. -/
structure St (B : Nat) (w : World) (v : Value) (n : Nat) (xs : List Value) (vd : Nat → Value) (C : Nat → List Int) : Prop where
  row : w.ownsRow B 29 4 v n xs
  nums : ∀ m, m < n → OIRow B w (vd m) (C m)
theorem St.below {B n : Nat} {w w' : World} {v : Value} {xs : List Value} {vd : Nat → Value} {C : Nat → List Int} (h : St B w v n xs vd C) (hb : Below w.heap.size w w') : St B w' v n xs vd C :=
  ⟨NU.own_below h.row hb, fun m hm => (h.nums m hm).below hb⟩
theorem St.set {B n g cap : Nat} {w : World} {xs : List Value} {vd : Nat → Value} {C : Nat → List Int} (h : St B w (.slice (some ⟨g, 0, none⟩) n cap) n xs vd C) (i : Nat) (u : Value) : St B (w.setCell ⟨g, i, none⟩ u) (.slice (some ⟨g, 0, none⟩) n cap) n (xs.set i u) vd C := by
  obtain ⟨cs, hc⟩ := own_block h.row rfl
  exact ⟨(World.ownsRow.stored h.row i u).1, fun m hm => NU.own_keep (h.nums m hm) fun g' hg' => Below.heap_setCell _ _ _ _ (own_ne (h.nums m hm) hc (by decide) g' hg')⟩
theorem St.cell {B n g cap : Nat} {w : World} {xs : List Value} {vd : Nat → Value} {C : Nat → List Int} (h : St B w (.slice (some ⟨g, 0, none⟩) n cap) n xs vd C) (hx : xs.length = n * 4) (i : Nat) (hi : i < n * 4) : (∃ o, w.cell? ⟨g, i, none⟩ = some o) ∧ w.frozen? ⟨g, i, none⟩ = false := cell_own h.row i hi hx
theorem St.last {B n j : Nat} {w w' : World} {v : Value} {xs : List Value} {vd : Nat → Value} {C : Nat → List Int} {c : List Int} (h : St B w v n xs vd C) (hd : ∀ i j, i < j → j < n → ∀ g, (vd i).ownBlock = some g → (vd j).ownBlock ≠ some g) (hj : j < n)
    (ho : OIRow B w' (vd j) c) (ht : Wrote (mine (vd j)) w w') : St B w' v n xs vd (fun m => if m = j then c else C m) := by
  refine ⟨own_wrote h.row ht fun g hg hm => ?_, fun m hm => ?_⟩
  · obtain ⟨cs, hc⟩ := own_block h.row hg
    exact own_ne (h.nums j hj) hc (by decide) g hm rfl
  · by_cases e : m = j
    · subst e
      simp only [if_true]
      exact ho
    · simp only [if_neg e]
      refine own_wrote (h.nums m hm) ht fun g hg hq => ?_
      rcases Nat.lt_or_gt_of_ne e with h1 | h1
      · exact hd m j h1 hj g hg hq
      · exact hd j m h1 hm g hq hg
/-- The blocks of lines. -/
def lines (v : Value) (n : Nat) (vd : Nat → Value) : Nat → Prop := fun g => v.ownBlock = some g ∨ ∃ m, m < n ∧ (vd m).ownBlock = some g
def RelL (B k : Nat) (l : List Ln) (vd : Nat → Value) (v : Value) (w : World) (q i : Value) (wr : World) : Prop :=
  ∃ j : Nat, j ≤ l.length ∧ i = .int .i64 j ∧ q = .int .i64 (upK l k j : Nat) ∧ St B wr v l.length (flatL (fun m => (cur l k j m, vd m)) l.length) vd (fun m => (cur l k j m).cards) ∧ Wrote (lines v l.length vd) w wr
theorem RelL.step {B k j : Nat} {l : List Ln} {vd : Nat → Value} {v : Value} {w w4 : World} (hj : j < l.length)
    (hs : St B w4 v l.length ((((flatL (fun m => (cur l k j m, vd m)) l.length).set (j * 4) (.int .i64 (upK l k j : Nat))).set (j * 4 + 1) (.string (mkOf (upK l k j + 1)))).set (j * 4 + 2) (.string (mkOf (upK l k j + 2)))) vd
      (fun m => if m = j then mkI (upK l k j + 3) (lAt l j).cards.length else (cur l k j m).cards))
    (ht : Wrote (lines v l.length vd) w w4) : RelL B k l vd v w (.int .i64 ((upK l k j + 3 + (lAt l j).cards.length : Nat) : Int)) (.int .i64 ((j : Int) + 1)) w4 := by
  have hc : ∀ m, cur l k (j + 1) m = if m = j then mkLn l k j else cur l k j m := fun m => by
    unfold cur
    by_cases e : m = j
    · subst e; rw [if_pos (Nat.lt_succ_self _), if_pos rfl]
    · rw [if_neg e]
      by_cases h : m < j
      · rw [if_pos h, if_pos (by omega)]
      · rw [if_neg h, if_neg (by omega)]
  refine ⟨j + 1, hj, by simp, rfl, ⟨?_, fun m hm => ?_⟩, ht⟩
  · have h1 := hs.row
    have h2 := flat_set (fun m => (cur l k j m, vd m)) l.length j hj (mkLn l k j)
    simp only [mkLn] at h2
    rw [h2] at h1
    have e : (fun m => (cur l k (j + 1) m, vd m)) = fun m => if m = j then (mkLn l k j, vd j) else (cur l k j m, vd m) := by
      funext m
      rw [hc m]
      by_cases e : m = j
      · subst e; rw [if_pos rfl, if_pos rfl]
      · rw [if_neg e, if_neg e]
    rw [e]
    exact h1
  · have h1 := hs.nums m hm
    rw [hc m]
    by_cases e : m = j
    · subst e; rw [if_pos rfl] at h1 ⊢; exact h1
    · rw [if_neg e] at h1 ⊢; exact h1
set_option maxRecDepth 100000 in
set_option maxHeartbeats 3200000 in
theorem markLines_any (B k : Nat) (v : Value) (l : List Ln) (vd : Nat → Value) (w : World) (hrow : w.ownsRow B 29 4 v l.length (flatL (fun m => (lAt l m, vd m)) l.length)) (hn : ∀ m, m < l.length → OIRow B w (vd m) (lAt l m).cards)
    (hd : ∀ i j, i < j → j < l.length → ∀ g, (vd i).ownBlock = some g → (vd j).ownBlock ≠ some g) (h1 : 0 < k) (h2 : k < 1000000000000) (hl : l.length ≤ 1048576) (hcz : ∀ x ∈ l, x.cards.length ≤ 1048576) :
    Calls Tryd.prog 72 #[v, .int .i64 k] w fun e w' => e = .returned (.int .i64 (upK l k l.length : Nat)) ∧ w'.ownsRow B 29 4 v l.length (flatL (fun m => (mkLn l k m, vd m)) l.length) ∧ (∀ m, m < l.length → OIRow B w' (vd m) (mkLn l k m).cards) ∧ Wrote (lines v l.length vd) w w' := by
  have H0 : Hid (RelL B k l vd v w (.int .i64 k) (.int .i64 0) w) := ⟨0, Nat.zero_le _, rfl, rfl, ⟨hrow, hn⟩, Wrote.refl _ _⟩
  obtain ⟨a, cap, rfl⟩ := slice_own hrow
  have HK : Hid (∀ j, j ≤ l.length → k ≤ upK l k j ∧ upK l k j ≤ k + j * 1048579) := fun j hj => ⟨upK_ge l k j, upK_le l k hcz j hj⟩
  have HC : Hid (∀ j, j < l.length → (lAt l j).cards.length ≤ 1048576) := fun j hj => hcz _ (List.mem_of_getElem? (lAt_get hj))
  have HD : Hid (∀ i j, i < j → j < l.length → ∀ g, (vd i).ownBlock = some g → (vd j).ownBlock ≠ some g) := hd
  clear hrow hn hcz hd
  go_enter Tryd.func72, Tryd.ntmps72
  go_wp2
  go_loopw [1, 5] (fun q i wr => RelL B k l vd (.slice a l.length cap) w q i wr) (fun _ i _ => l.length - (intOf i).toNat)
  case atStart => exact H0.out
  case round =>
    clear H0
    obtain ⟨j, hj, rfl, rfl, hs, ht⟩ := hrel
    by_cases hlt : j < l.length
    · obtain ⟨g, cap', hsl, hBg, hgz⟩ := form_own hs.row (by omega)
      simp only [Value.slice.injEq] at hsl
      obtain ⟨rfl, -, -⟩ := hsl
      have hlt' : (j : Int) < (l.length : Int) := by omega
      obtain ⟨hk1, hk2⟩ := HK.out j hj
      have hcl := HC.out j hlt
      have hvj : (flatL (fun m => (cur l k j m, vd m)) l.length)[j * 4 + 3]? = some (vd j) := by rw [flat_at _ _ j 3 hlt (by omega)]; rfl
      have hstep : ∀ w4, St B w4 (.slice (some ⟨g, 0, none⟩) l.length cap) l.length ((((flatL (fun m => (cur l k j m, vd m)) l.length).set (j * 4) (.int .i64 (upK l k j : Nat))).set (j * 4 + 1) (.string (mkOf (upK l k j + 1)))).set (j * 4 + 2) (.string (mkOf (upK l k j + 2)))) vd
          (fun m => if m = j then mkI (upK l k j + 3) (lAt l j).cards.length else (cur l k j m).cards) → Wrote (lines (.slice (some ⟨g, 0, none⟩) l.length cap) l.length vd) w w4 →
          RelL B k l vd (.slice (some ⟨g, 0, none⟩) l.length cap) w (.int .i64 ((upK l k j + 3 + (lAt l j).cards.length : Nat) : Int)) (.int .i64 ((j : Int) + 1)) w4 := fun w4 h3 h4 => RelL.step hlt h3 h4
      have hnj := hs.nums j hlt
      have hcj := cur_len l k j j
      have hfl := flat_length (fun m => (cur l k j m, vd m)) l.length
      generalize flatL (fun m => (cur l k j m, vd m)) l.length = xs at *
      generalize upK l k j = x at *
      have HN : Hid _ := hstep
      have HJ : Hid (xs[j * 4 + 3]? = some (vd j)) := hvj
      have HX : Hid (xs.length = l.length * 4) := hfl
      have HL : Hid ((cur l k j j).cards.length = (lAt l j).cards.length) := hcj
      have s1 := hs.set (j * 4) (.int .i64 (x : Nat))
      have t1 : Wrote (lines (.slice (some ⟨g, 0, none⟩) l.length cap) l.length vd) w (wr.setCell ⟨g, j * 4, none⟩ (.int .i64 (x : Nat))) := ht.setCell (p := ⟨g, j * 4, none⟩) (.inr (.inl rfl)) _
      obtain ⟨⟨o0, ho0⟩, hf0⟩ := hs.cell hfl (j * 4) (by omega)
      have S1 : Hid _ := s1
      have T1 : Hid _ := t1
      clear hs ht hstep hnj hcj hfl hvj s1 t1
      have HM1 : Hid (∀ W, Calls Tryd.prog 92 #[.int .i64 ((x : Int) + 1)] W fun e w' => e = .returned (.string (mkOf (x + 1))) ∧ Below W.heap.size W w') := fun W => by
        have := markText_any (x + 1) W (by omega) (by omega)
        rwa [show ((x + 1 : Nat) : Int) = (x : Int) + 1 by omega] at this
      have HM2 : Hid (∀ W, Calls Tryd.prog 92 #[.int .i64 ((x : Int) + 1 + 1)] W fun e w' => e = .returned (.string (mkOf (x + 2))) ∧ Below W.heap.size W w') := fun W => by
        have := markText_any (x + 2) W (by omega) (by omega)
        rwa [show ((x + 2 : Nat) : Int) = (x : Int) + 1 + 1 by omega] at this
      have HM3 : Hid (∀ W, OIRow B W (vd j) (cur l k j j).cards → Calls Tryd.prog 74 #[vd j, .int .i64 ((x : Int) + 1 + 1 + 1)] W fun e w' => e = .returned (.int .i64 ((x + 3 + (lAt l j).cards.length : Nat) : Int)) ∧ OIRow B w' (vd j) (mkI (x + 3) (lAt l j).cards.length) ∧ Wrote (mine (vd j)) W w') := fun W hW => by
        have := markInts_any B (x + 3) (vd j) _ W hW (by omega) (by rw [HL.out]; omega)
        rwa [HL.out, show ((x + 3 : Nat) : Int) = (x : Int) + 1 + 1 + 1 by omega] at this
      go_wp2_with fail
      refine (HM1.out _).mono ?_
      rintro e w1 ⟨rfl, hb1⟩
      have s2 := S1.out.below hb1
      obtain ⟨⟨o1, ho1⟩, hf1⟩ := s2.cell (by rw [List.length_set]; exact HX.out) (j * 4 + 1) (by omega)
      have S3 : Hid _ := s2.set (j * 4 + 1) (.string (mkOf (x + 1)))
      have T3 : Hid (Wrote (lines (.slice (some ⟨g, 0, none⟩) l.length cap) l.length vd) w (w1.setCell ⟨g, j * 4 + 1, none⟩ (.string (mkOf (x + 1))))) := (T1.out.trans (Wrote.of_below hb1)).setCell (p := ⟨g, j * 4 + 1, none⟩) (.inr (.inl rfl)) _
      clear s2 hb1 S1 T1 ho0 hf0 HM1
      go_wp2_with fail
      refine (HM2.out _).mono ?_
      rintro e w2 ⟨rfl, hb2⟩
      have s4 := S3.out.below hb2
      obtain ⟨⟨o2, ho2⟩, hf2⟩ := s4.cell (by rw [List.length_set, List.length_set]; exact HX.out) (j * 4 + 2) (by omega)
      have s5 := s4.set (j * 4 + 2) (.string (mkOf (x + 2)))
      have t5 : Wrote (lines (.slice (some ⟨g, 0, none⟩) l.length cap) l.length vd) w (w2.setCell ⟨g, j * 4 + 2, none⟩ (.string (mkOf (x + 2)))) := (T3.out.trans (Wrote.of_below hb2)).setCell (p := ⟨g, j * 4 + 2, none⟩) (.inr (.inl rfl)) _
      have S5 : Hid _ := s5
      have T5 : Hid _ := t5
      clear s4 s5 t5 hb2 S3 T3 ho1 hf1 HM2
      go_upto_region 9 with fail
      generalize w2.setCell ⟨g, j * 4 + 2, none⟩ (.string (mkOf (x + 2))) = w3 at *
      clear ho2 hf2
      have c3 : w3.cell? ⟨g, j * 4 + 3, none⟩ = some (vd j) := by
        rw [World.ownsRow.cellAt S5.out.row (j * 4 + 3) (by omega), List.getElem?_set_ne (by omega), List.getElem?_set_ne (by omega), List.getElem?_set_ne (by omega)]
        exact HJ.out
      go_wp2_with fail
      refine (HM3.out _ (S5.out.nums j hlt)).mono ?_
      rintro e w4 ⟨rfl, ho4, ht4⟩
      have HR : Hid _ := HN.out w4 (S5.out.last HD.out hlt ho4 ht4) (T5.out.trans (ht4.mono fun g' hg' => .inr ⟨j, hlt, hg'⟩))
      clear ho4 ht4 S5 T5 c3 HM3 HN
      go_wp2_with fail
      go_roundw
      case rel => exact HR.out
      case measure => simp [intOf]; omega
    · obtain rfl : j = l.length := by omega
      have HF : Hid (wr.ownsRow B 29 4 (.slice a l.length cap) l.length (flatL (fun m => (mkLn l k m, vd m)) l.length) ∧ (∀ m, m < l.length → OIRow B wr (vd m) (mkLn l k m).cards) ∧ Wrote (lines (.slice a l.length cap) l.length vd) w wr) := by
        refine ⟨?_, fun m hm => ?_, ht⟩
        · have := hs.row
          rwa [flat_ext _ (fun m => (mkLn l k m, vd m)) _ fun m hm => by unfold cur; rw [if_pos hm]] at this
        · have := hs.nums m hm
          unfold cur at this
          rwa [if_pos hm] at this
      clear hs ht
      go_wp2
      go_ret
      exact ⟨rfl, HF.out.1, HF.out.2.1, HF.out.2.2⟩
end Go.Proofs.YtkpjdmmgdmbmnaaDoor.IV
