/-
  The laws' own copies of lines and of logs, whose rows of numbers are distinct.
-/
import Derived.Test.YtkpjdmmgdmbmnaaDoorIP
namespace Go.Proofs.YtkpjdmmgdmbmnaaDoor.IQ
open Go.RowKit
open Go.Proofs.YtkpjdmmgdmbmnaaDoor.C0 Go.Proofs.YtkpjdmmgdmbmnaaDoor.HB
open Go.Proofs.YtkpjdmmgdmbmnaaDoor.A1 Go.Proofs.YtkpjdmmgdmbmnaaDoor.A4 Go.Proofs.YtkpjdmmgdmbmnaaDoor.A7 Go.Proofs.YtkpjdmmgdmbmnaaDoor.A8 Go.Proofs.YtkpjdmmgdmbmnaaDoor.IE Go.Proofs.YtkpjdmmgdmbmnaaDoor.IF
open Go.Proofs.YtkpjdmmgdmbmnaaDoor.A6 (OIRow add0)
open Go.Proofs.YtkpjdmmgdmbmnaaDoor.AA (Elem run_make_row4)
open Go.Proofs.YtkpjdmmgdmbmnaaDoor.AB (ostrs_set heap_set)
theorem ols_put {B g j : Nat} {u : Value} {w : World} {v : Value} {l : List Ln} (h : OLs B w v l) (hg : g < B) : OLs B (w.setCell ⟨g, j, none⟩ u) v l :=
  h.keep fun b _ _ _ _ hb => heap_setCell_other _ _ _ _ (by show b ≠ g; omega)
theorem ols_of_row {B C b : Nat} {w : World} {l : List Ln} {f : Nat → Value} (h : w.rowIs b 29 (l.length * 4) f) (hf : ∀ j x, l[j]? = some x → Elem C w f j x)
    (hd : ∀ i j, i < j → j < l.length → ∀ g, (f (i * 4 + 3)).ownBlock = some g → (f (j * 4 + 3)).ownBlock ≠ some g) (hB : B ≤ b) (hC : B ≤ C) (hm : l.length ≤ maxLen) : OLs B w (.slice (some ⟨b, 0, none⟩) l.length l.length) l := by
  obtain ⟨c, hb, hn, hc⟩ := h
  refine ⟨fun k => f (k * 4 + 3), ⟨flat_length _ _, .inr ⟨b, l.length, c, rfl, hB, hb, Nat.le_refl _, hm, by omega, ?_⟩⟩, fun k hk => A7.own_mono (hf k _ (lAt_get hk)).2.2.2 hC, hd⟩
  apply List.ext_getElem?
  intro i
  rw [List.getElem?_take]
  by_cases hi : i < l.length * 4
  · obtain ⟨q, r, rfl, hq, hr⟩ : ∃ q r, i = q * 4 + r ∧ q < l.length ∧ r < 4 := ⟨i / 4, i % 4, by omega, by omega, by omega⟩
    rw [if_pos (by omega), flat_at _ _ q r hq hr]
    have h0 := hc _ hi
    obtain ⟨e0, e1, e2, e3⟩ := hf q _ (lAt_get hq)
    obtain rfl | rfl | rfl | rfl : r = 0 ∨ r = 1 ∨ r = 2 ∨ r = 3 := by omega
    · rw [Nat.add_zero, e0] at h0; simpa [four] using h0
    · rw [e1] at h0; simpa [four] using h0
    · rw [e2] at h0; simpa [four] using h0
    · simpa [four] using h0
  · rw [if_neg (by omega), List.getElem?_eq_none (by rw [flat_length]; omega)]
def RelV (l : List Ln) (w0 : World) (i : Value) (wr : World) : Prop :=
  ∃ (k : Nat) (f : Nat → Value), k ≤ l.length ∧ i = .int .i64 k ∧ wr.rowIs w0.heap.size 29 (l.length * 4) f ∧ (∀ j x, j < k → l[j]? = some x → Elem (w0.heap.size + 1) wr f j x) ∧
    (∀ i j, i < j → j < k → ∀ g, (f (i * 4 + 3)).ownBlock = some g → (f (j * 4 + 3)).ownBlock ≠ some g) ∧ Below w0.heap.size w0 wr
theorem RelV.step {l : List Ln} {w0 wr w1 : World} {k : Nat} {f : Nat → Value} {x : Ln} {vd : Value} (hk : k < l.length) (hs : l[k]? = some x) (hrow : wr.rowIs w0.heap.size 29 (l.length * 4) f) (hf : ∀ j x, j < k → l[j]? = some x → Elem (w0.heap.size + 1) wr f j x)
    (hd : ∀ i j, i < j → j < k → ∀ g, (f (i * 4 + 3)).ownBlock = some g → (f (j * 4 + 3)).ownBlock ≠ some g) (hb : Below w0.heap.size w0 wr) (h1 : Below wr.heap.size wr w1) (ho : OIRow wr.heap.size w1 vd x.cards) :
    RelV l w0 (.int .i64 ((k : Int) + 1)) ((((w1.setCell ⟨w0.heap.size, k * 4, none⟩ (.int .i64 x.kind)).setCell ⟨w0.heap.size, k * 4 + 1, none⟩ (.string x.name)).setCell ⟨w0.heap.size, k * 4 + 2, none⟩ (.string x.sum)).setCell ⟨w0.heap.size, k * 4 + 3, none⟩ vd) := by
  have hlt := hrow.lt
  have hrow1 : w1.rowIs w0.heap.size 29 (l.length * 4) f := hrow.of_block (h1.block _ hlt)
  have keep : ∀ {v : Value} {cs : List Int}, OIRow (w0.heap.size + 1) w1 v cs → OIRow (w0.heap.size + 1) ((((w1.setCell ⟨w0.heap.size, k * 4, none⟩ (.int .i64 x.kind)).setCell ⟨w0.heap.size, k * 4 + 1, none⟩ (.string x.name)).setCell ⟨w0.heap.size, k * 4 + 2, none⟩ (.string x.sum)).setCell ⟨w0.heap.size, k * 4 + 3, none⟩ vd) v cs := fun h =>
    own_set (own_set (own_set (own_set h (Nat.lt_succ_self _)) (Nat.lt_succ_self _)) (Nat.lt_succ_self _)) (Nat.lt_succ_self _)
  obtain ⟨f', hf', hrow'⟩ : ∃ f' : Nat → Value, (∀ i, f' i = if i = k * 4 + 3 then vd else if i = k * 4 + 2 then .string x.sum else if i = k * 4 + 1 then .string x.name else if i = k * 4 then .int .i64 x.kind else f i) ∧
      World.rowIs ((((w1.setCell ⟨w0.heap.size, k * 4, none⟩ (.int .i64 x.kind)).setCell ⟨w0.heap.size, k * 4 + 1, none⟩ (.string x.name)).setCell ⟨w0.heap.size, k * 4 + 2, none⟩ (.string x.sum)).setCell ⟨w0.heap.size, k * 4 + 3, none⟩ vd) w0.heap.size 29 (l.length * 4) f' :=
    ⟨_, fun i => rfl, (((hrow1.set _ _).set _ _).set _ _).set _ _⟩
  have g3 : ∀ m, m ≠ k → f' (m * 4 + 3) = f (m * 4 + 3) := fun m hm => by
    rw [hf', if_neg (by omega), if_neg (by omega), if_neg (by omega), if_neg (by omega)]
  have gk : f' (k * 4 + 3) = vd := by rw [hf', if_pos rfl]
  refine ⟨k + 1, f', by omega, by simp, hrow', fun j t hj ht => ?_, fun i j hij hj g hg => ?_, ((((hb.trans (h1.mono hb.size)).setCell (Nat.le_refl _) _).setCell (Nat.le_refl _) _).setCell (Nat.le_refl _) _).setCell (Nat.le_refl _) _⟩
  · by_cases e : j = k
    · subst e
      rw [hs] at ht; cases ht
      refine ⟨?_, ?_, ?_, ?_⟩
      · rw [hf', if_neg (by omega), if_neg (by omega), if_neg (by omega), if_pos rfl]
      · rw [hf', if_neg (by omega), if_neg (by omega), if_pos rfl]
      · rw [hf', if_neg (by omega), if_pos rfl]
      · rw [gk]; exact keep (A7.own_mono ho (by omega))
    · obtain ⟨e0, e1, e2, e3⟩ := hf j t (by omega) ht
      refine ⟨?_, ?_, ?_, ?_⟩
      · rw [hf', if_neg (by omega), if_neg (by omega), if_neg (by omega), if_neg (by omega)]; exact e0
      · rw [hf', if_neg (by omega), if_neg (by omega), if_neg (by omega), if_neg (by omega)]; exact e1
      · rw [hf', if_neg (by omega), if_neg (by omega), if_neg (by omega), if_neg (by omega)]; exact e2
      · rw [g3 j e]; exact keep (e3.below h1)
  · rw [g3 i (by omega)] at hg
    by_cases e : j = k
    · subst e
      rw [gk]
      intro h2
      have a1 := (ho.lt g h2).1
      have a2 := ((hf i _ (by omega) (lAt_get (l := l) (k := i) (by omega))).2.2.2.lt g hg).2
      omega
    · rw [g3 j e]; exact hd i j hij (by omega) g hg
set_option maxRecDepth 100000 in
set_option maxHeartbeats 3200000 in
theorem toLines_own (v : Value) (l : List Ln) (w : World) (hv : LRow w v l) (hz : l.length ≤ 1048576) (hcz : ∀ x ∈ l, x.cards.length ≤ 1048576) :
    Calls Tryd.prog 65 #[v] w fun e w' => ∃ a cap, e = .returned (.slice a l.length cap) ∧ OLs w.heap.size w' (.slice a l.length cap) l ∧ Below w.heap.size w w' := by
  obtain ⟨a, cap, rfl, hl, hc⟩ := hv
  have hmk := run_make_row4 (P := Tryd.prog) 23 29 (.agg #[.int .i64 0, .string ⟨#[]⟩, .string ⟨#[]⟩, .slice none 0 0]) 64 Tryd.underlying23 AA.info_line .i64 .i64 l.length (by omega) (by omega)
  obtain ⟨M, hM⟩ : ∃ M, madeCells (Value.agg #[.int .i64 0, .string ⟨#[]⟩, .string ⟨#[]⟩, .slice none 0 0]).cells (l.length * 4) = M := ⟨_, rfl⟩
  have hMs : M.size = l.length * 4 := by rw [← hM, size_madeCells]
  rw [hM] at hmk
  clear hM
  have hrow0 : (w.alloc (.cells M 29)).rowIs w.heap.size 29 (l.length * 4) (fun i => M.getD i (.int .i64 0)) :=
    ⟨_, Go.Deep.blk_alloc_new _ _, hMs, fun i hi => by simp [hMs, hi]⟩
  have H0 : Hid (RelV l w (.int .i64 0) (w.alloc (.cells M 29))) := ⟨0, _, Nat.zero_le _, rfl, hrow0, fun j s h => by omega, fun i j hi hj => by omega, (Below.refl _ _).alloc (Nat.le_refl _) _⟩
  clear hrow0 hMs
  go_enter Tryd.func65, Tryd.ntmps65
  go_wp2
  clear hmk
  go_loopw [4] (fun i wr => RelV l w i wr) (fun i _ => l.length - (intOf i).toNat)
  case atStart => exact H0.out
  case round =>
    clear H0
    obtain ⟨k, f, hk, rfl, hrow, hf, hdd, hbel⟩ := hrel
    by_cases hlt : k < l.length
    · obtain ⟨b, off, rfl, hbb, hcc⟩ := hc (by omega)
      obtain ⟨vc, hi, c0, c1, c2, c3⟩ := hcc k _ (lAt_get hlt)
      rw [← hbel.cell (p := ⟨b, off + k * 4, none⟩) hbb] at c0
      rw [← hbel.cell (p := ⟨b, off + k * 4 + 1, none⟩) hbb] at c1
      rw [← hbel.cell (p := ⟨b, off + k * 4 + 2, none⟩) hbb] at c2
      rw [← hbel.cell (p := ⟨b, off + k * 4 + 3, none⟩) hbb] at c3
      have hlt' : (k : Int) < (l.length : Int) := by omega
      have HT : Hid (Calls Tryd.prog 29 #[lnV (lAt l k) vc] wr fun e w' => ∃ vd, e = .returned (lnV (lAt l k) vd) ∧ OIRow wr.heap.size w' vd (lAt l k).cards ∧ Below wr.heap.size wr w') := toLine_any _ vc wr (hi.below hbel) (hcz _ (List.mem_of_getElem? (lAt_get hlt)))
      have HN : Hid (∀ w1 vd, Below wr.heap.size wr w1 → OIRow wr.heap.size w1 vd (lAt l k).cards → RelV l w (.int .i64 ((k : Int) + 1)) ((((w1.setCell ⟨w.heap.size, k * 4, none⟩ (.int .i64 (lAt l k).kind)).setCell ⟨w.heap.size, k * 4 + 1, none⟩ (.string (lAt l k).name)).setCell ⟨w.heap.size, k * 4 + 2, none⟩ (.string (lAt l k).sum)).setCell ⟨w.heap.size, k * 4 + 3, none⟩ vd)) := fun w1 vd h1 ho => RelV.step hlt (lAt_get hlt) hrow hf hdd hbel h1 ho
      have HO : Hid (∀ w1, Below wr.heap.size wr w1 → (∃ o, w1.cell? ⟨w.heap.size, k * 4, none⟩ = some o) ∧ (∃ o, w1.cell? ⟨w.heap.size, k * 4 + 1, none⟩ = some o) ∧ (∃ o, w1.cell? ⟨w.heap.size, k * 4 + 2, none⟩ = some o) ∧ (∃ o, w1.cell? ⟨w.heap.size, k * 4 + 3, none⟩ = some o) ∧ (∀ o, w1.frozen? ⟨w.heap.size, o, none⟩ = false)) := fun w1 h1 => by
        have hr1 := hrow.of_block (h1.block _ hrow.lt)
        exact ⟨⟨_, hr1.cell (by omega)⟩, ⟨_, hr1.cell (by omega)⟩, ⟨_, hr1.cell (by omega)⟩, ⟨_, hr1.cell (by omega)⟩, fun o => hr1.frozen o⟩
      clear hcc hi hrow hf hdd hbel hc hcz
      unfold lnV at HT
      generalize lAt l k = x at *
      go_wp2_with fail
      refine HT.out.mono ?_
      rintro e w1 ⟨vd, rfl, ho, hb1⟩
      have HF : Hid _ := HN.out w1 vd hb1 ho
      obtain ⟨⟨o0, ho0⟩, ⟨o1, ho1⟩, ⟨o2, ho2⟩, ⟨o3, ho3⟩, hfr⟩ := HO.out w1 hb1
      obtain ⟨a2, cap2, rfl, _, _⟩ := ho.irow
      clear HN HO HT hb1 ho
      go_wp2_with fail
      go_roundw
      case rel => exact HF.out
      case measure => simp [intOf]; omega
    · have hkl : k = l.length := by omega
      have HF : Hid (OLs w.heap.size wr (.slice (some ⟨w.heap.size, 0, none⟩) l.length l.length) l) := ols_of_row hrow (fun j x hx => hf j x (by rw [hkl]; exact (List.getElem?_eq_some_iff.1 hx).1) hx) (fun i j h1 h2 => hdd i j h1 (by omega)) (Nat.le_refl _) (Nat.le_succ _) (by unfold maxLen; omega)
      have HB : Hid (Below w.heap.size w wr) := hbel
      clear hrow hf hdd hbel hkl hc hcz
      go_wp2
      go_ret
      exact ⟨_, _, rfl, HF.out, HB.out⟩
set_option maxRecDepth 100000 in
set_option maxHeartbeats 1600000 in
theorem toAudit_own (vl vk : Value) (ls : List Ln) (ks : List ByteArray) (w : World) (hv : LRow w vl ls) (hu : SRow w vk ks) (hz : ls.length ≤ 1048576) (hcz : ∀ x ∈ ls, x.cards.length ≤ 1048576) (hk : ks.length ≤ 1048576) :
    Calls Tryd.prog 26 #[.agg #[vl, vk]] w fun e w' => ∃ ul uk, e = .returned (.agg #[ul, uk]) ∧ OLs w.heap.size w' ul ls ∧ OStrs w.heap.size w' uk ks ∧ Below w.heap.size w w' := by
  have HL : Hid (∀ W, Below w.heap.size w W → Calls Tryd.prog 65 #[vl] W fun e w' => ∃ a cap, e = .returned (.slice a ls.length cap) ∧ OLs W.heap.size w' (.slice a ls.length cap) ls ∧ Below W.heap.size W w') := fun W hW => toLines_own vl ls W (hv.below hW) hz hcz
  have HS : Hid (∀ W, Below w.heap.size w W → Calls Tryd.prog 66 #[vk] W fun e w' => ∃ a cap, e = .returned (.slice a ks.length cap) ∧ OStrs W.heap.size w' (.slice a ks.length cap) ks ∧ Below W.heap.size W w') := fun W hW => toStrs_any vk ks W (hu.below hW) hk
  obtain ⟨a, cap, rfl, _, _⟩ := hv
  obtain ⟨a2, cap2, rfl, _, _⟩ := hu
  clear hz hcz hk
  have p0 := carryA (carryA (heap_alloc_new w (.cells #[.slice a ls.length cap, .slice a2 ks.length cap2] 48)) (.cells #[.slice none 0 0, .slice none 0 0] 26)) (.cells #[.slice none 0 0, .slice none 0 0] 26)
  have r0 := carryA (heap_alloc_new (w.alloc (.cells #[.slice a ls.length cap, .slice a2 ks.length cap2] 48)) (.cells #[.slice none 0 0, .slice none 0 0] 26)) (.cells #[.slice none 0 0, .slice none 0 0] 26)
  have o0 := heap_alloc_new ((w.alloc (.cells #[.slice a ls.length cap, .slice a2 ks.length cap2] 48)).alloc (.cells #[.slice none 0 0, .slice none 0 0] 26)) (.cells #[.slice none 0 0, .slice none 0 0] 26)
  have B0 : Below w.heap.size w (((w.alloc (.cells #[.slice a ls.length cap, .slice a2 ks.length cap2] 48)).alloc (.cells #[.slice none 0 0, .slice none 0 0] 26)).alloc (.cells #[.slice none 0 0, .slice none 0 0] 26)) := ((albel w _).alloc (by simp) _).alloc (by simp; omega) _
  have hsz : (((w.alloc (.cells #[.slice a ls.length cap, .slice a2 ks.length cap2] 48)).alloc (.cells #[.slice none 0 0, .slice none 0 0] 26)).alloc (.cells #[.slice none 0 0, .slice none 0 0] 26)).heap.size = w.heap.size + 1 + 1 + 1 := by simp
  simp only [asz] at r0 o0
  go_enter Tryd.func26, Tryd.ntmps26
  go_upto_region 2 with fail
  generalize ((w.alloc (.cells #[.slice a ls.length cap, .slice a2 ks.length cap2] 48)).alloc (.cells #[.slice none 0 0, .slice none 0 0] 26)).alloc (.cells #[.slice none 0 0, .slice none 0 0] 26) = W3 at *
  have p0c := block_cell p0 0
  go_wp2_with fail
  refine (HL.out _ B0).mono ?_
  rintro e w4 ⟨a3, cap3, rfl, ho, hb⟩
  have p4 := carry p0 hb
  have r4 := carry r0 hb
  have o4 := carry o0 hb
  have B4 := bel2 B0 hb
  rw [hsz] at ho
  have p4c := block_cell p4 1
  have o4c := block_cell o4 0
  have o4f : w4.frozen? ⟨w.heap.size + 1 + 1, 0, none⟩ = false := by simp [World.frozen?, o4]
  clear hb p0 r0 o0 p0c B0 hsz
  have p5 : (w4.setCell ⟨w.heap.size + 1 + 1, 0, none⟩ (.slice a3 ls.length cap3)).heap[w.heap.size]? = _ := (heap_setCell_other _ _ _ _ (by show w.heap.size ≠ w.heap.size + 1 + 1; omega)).trans p4
  have r5 : (w4.setCell ⟨w.heap.size + 1 + 1, 0, none⟩ (.slice a3 ls.length cap3)).heap[w.heap.size + 1]? = _ := (heap_setCell_other _ _ _ _ (by show w.heap.size + 1 ≠ w.heap.size + 1 + 1; omega)).trans r4
  have o5 : (w4.setCell ⟨w.heap.size + 1 + 1, 0, none⟩ (.slice a3 ls.length cap3)).heap[w.heap.size + 1 + 1]? = some (.cells #[.slice a3 ls.length cap3, .slice none 0 0] 26 (0, 0)) := heap_set o4 (by simp)
  have ho5 : OLs (w.heap.size + 1 + 1 + 1) (w4.setCell ⟨w.heap.size + 1 + 1, 0, none⟩ (.slice a3 ls.length cap3)) (.slice a3 ls.length cap3) ls := ols_put ho (Nat.lt_succ_self _)
  have B5 : Below w.heap.size w (w4.setCell ⟨w.heap.size + 1 + 1, 0, none⟩ (.slice a3 ls.length cap3)) := B4.setCell (by show w.heap.size ≤ w.heap.size + 1 + 1; omega) _
  have s5 : w.heap.size + 1 + 1 < (w4.setCell ⟨w.heap.size + 1 + 1, 0, none⟩ (.slice a3 ls.length cap3)).heap.size := lt_some o5
  have H5 : Hid _ := ho5
  clear ho ho5 B4 p4 r4 o4
  go_upto_region 3 with fail
  generalize w4.setCell ⟨w.heap.size + 1 + 1, 0, none⟩ (.slice a3 ls.length cap3) = w5 at *
  have p5c := block_cell p5 1
  clear o4c o4f p4c
  go_wp2_with fail
  refine (HS.out _ B5).mono ?_
  rintro e w6 ⟨a4, cap4, rfl, hq, hb⟩
  have r6 := carry r5 hb
  have o6 := carry o5 hb
  have B6 := bel2 B5 hb
  have h5 : OLs (w.heap.size + 1 + 1 + 1) w5 (.slice a3 ls.length cap3) ls := H5.out
  have h6 := h5.below hb
  have hq6 : OStrs (w.heap.size + 1 + 1 + 1) w6 (.slice a4 ks.length cap4) ks := own_mono hq (by omega)
  have o6c := block_cell o6 1
  have o6d := block_cell o6 0
  have o6f : ∀ o, w6.frozen? ⟨w.heap.size + 1 + 1, o, none⟩ = false := fun o => by simp [World.frozen?, o6]
  have r6c := block_cell r6 0
  have r6d := block_cell r6 1
  have r6f : ∀ o, w6.frozen? ⟨w.heap.size + 1, o, none⟩ = false := fun o => by simp [World.frozen?, r6]
  have H6 : Hid _ := h6
  have Q6 : Hid _ := hq6
  have C6 : Hid _ := B6
  clear hb hq hq6 h5 h6 p5 r5 o5 r6 o6 B5 B6 H5 s5 p5c
  go_wp2
  refine bodyPost_ret (v := .agg #[.slice a3 ls.length cap3, .slice a4 ks.length cap4]) (by simp [results, Tryd.results26, go_sem, r6c, r6d]) rfl ⟨_, _, rfl, ?_, ?_, ?_⟩
  · have h6 : OLs (w.heap.size + 1 + 1 + 1) w6 (.slice a3 ls.length cap3) ls := H6.out
    exact (ols_put (ols_put (ols_put h6 (by omega)) (by omega)) (by omega)).mono (by omega)
  · exact own_mono (ostrs_set (ostrs_set (ostrs_set Q6.out (by omega)) (by omega)) (by omega)) (by omega)
  · have c6 : Below w.heap.size w w6 := C6.out
    exact ((c6.setCell (by show w.heap.size ≤ w.heap.size + 1 + 1; omega) _).setCell (by show w.heap.size ≤ w.heap.size + 1; omega) _).setCell (by show w.heap.size ≤ w.heap.size + 1; omega) _
end Go.Proofs.YtkpjdmmgdmbmnaaDoor.IQ
