/-
  One block more, as the program takes it: the state is an array of eight.
-/
import Derived.Test.YtkpjdmmgdmbmnabDoorK1
namespace Go.Proofs.YtkpjdmmgdmbmnabDoor.K2
open Go.RowKit
open Go.Proofs.YtkpjdmmgdmbmnabDoor.C0
open Go.Deep (blk_alloc_lt blk_alloc_new nblk_alloc)
open Go.Proofs.YtkpjdmmgdmbmnabDoor.K1 (num wCells)

/-- The variable that holds the rounds' numbers lies as the program's text lays it. -/
def Laid (w : World) : Prop := ∀ i, i < 64 → w.cell? ⟨0, i, none⟩ = some (num (Ms.key i))
theorem Laid.lt {w : World} (h : Laid w) : 0 < w.heap.size := by
  rcases Nat.lt_or_ge 0 w.heap.size with h' | h'
  · exact h'
  · have := h 0 (by omega)
    simp [World.cell?, Array.getElem?_eq_none h'] at this
theorem Laid.below {w w' : World} (h : Laid w) (hb : Below w.heap.size w w') : Laid w' := by
  intro i hi; rw [hb.cell (p := ⟨0, i, none⟩) h.lt]; exact h i hi

def stCells (s : Ms.St) : Array Value := #[num s.a, num s.b, num s.c, num s.d, num s.e, num s.f, num s.g, num s.h]

theorem cell_at {w : World} {g : Nat} {c : Array Value} {t : TypeId} {fr : Nat × Nat} (hg : w.heap[g]? = some (.cells c t fr)) (j : Nat) : w.cell? ⟨g, j, none⟩ = c[j]? := by simp [World.cell?, hg]
theorem frozen_at {w : World} {g : Nat} {c : Array Value} {t : TypeId} (hg : w.heap[g]? = some (.cells c t (0, 0))) (j : Nat) : w.frozen? ⟨g, j, none⟩ = false := by simp [World.frozen?, hg]
theorem wCells_at (l : List UInt8) (j : Nat) (hj : j < 64) : (wCells l)[j]? = some (num (Ms.wAt l j)) := by simp [wCells, hj]

theorem ix0 (a b c d e f g h : Value) (w : World) : (Instr.index 76 (.agg #[a, b, c, d, e, f, g, h]) (.int .i64 0)).run Tryd.prog w = .ok a w := by kernel_rfl
theorem ix1 (a b c d e f g h : Value) (w : World) : (Instr.index 76 (.agg #[a, b, c, d, e, f, g, h]) (.int .i64 1)).run Tryd.prog w = .ok b w := by kernel_rfl
theorem ix2 (a b c d e f g h : Value) (w : World) : (Instr.index 76 (.agg #[a, b, c, d, e, f, g, h]) (.int .i64 2)).run Tryd.prog w = .ok c w := by kernel_rfl
theorem ix3 (a b c d e f g h : Value) (w : World) : (Instr.index 76 (.agg #[a, b, c, d, e, f, g, h]) (.int .i64 3)).run Tryd.prog w = .ok d w := by kernel_rfl
theorem ix4 (a b c d e f g h : Value) (w : World) : (Instr.index 76 (.agg #[a, b, c, d, e, f, g, h]) (.int .i64 4)).run Tryd.prog w = .ok e w := by kernel_rfl
theorem ix5 (a b c d e f g h : Value) (w : World) : (Instr.index 76 (.agg #[a, b, c, d, e, f, g, h]) (.int .i64 5)).run Tryd.prog w = .ok f w := by kernel_rfl
theorem ix6 (a b c d e f g h : Value) (w : World) : (Instr.index 76 (.agg #[a, b, c, d, e, f, g, h]) (.int .i64 6)).run Tryd.prog w = .ok g w := by kernel_rfl
theorem ix7 (a b c d e f g h : Value) (w : World) : (Instr.index 76 (.agg #[a, b, c, d, e, f, g, h]) (.int .i64 7)).run Tryd.prog w = .ok h w := by kernel_rfl
theorem jx0 (a b c d e f g h : Value) (w : World) : (Instr.index 77 (.agg #[a, b, c, d, e, f, g, h]) (.int .i64 0)).run Tryd.prog w = .ok a w := by kernel_rfl
theorem jx1 (a b c d e f g h : Value) (w : World) : (Instr.index 77 (.agg #[a, b, c, d, e, f, g, h]) (.int .i64 1)).run Tryd.prog w = .ok b w := by kernel_rfl
theorem jx2 (a b c d e f g h : Value) (w : World) : (Instr.index 77 (.agg #[a, b, c, d, e, f, g, h]) (.int .i64 2)).run Tryd.prog w = .ok c w := by kernel_rfl
theorem jx3 (a b c d e f g h : Value) (w : World) : (Instr.index 77 (.agg #[a, b, c, d, e, f, g, h]) (.int .i64 3)).run Tryd.prog w = .ok d w := by kernel_rfl
theorem jx4 (a b c d e f g h : Value) (w : World) : (Instr.index 77 (.agg #[a, b, c, d, e, f, g, h]) (.int .i64 4)).run Tryd.prog w = .ok e w := by kernel_rfl
theorem jx5 (a b c d e f g h : Value) (w : World) : (Instr.index 77 (.agg #[a, b, c, d, e, f, g, h]) (.int .i64 5)).run Tryd.prog w = .ok f w := by kernel_rfl
theorem jx6 (a b c d e f g h : Value) (w : World) : (Instr.index 77 (.agg #[a, b, c, d, e, f, g, h]) (.int .i64 6)).run Tryd.prog w = .ok g w := by kernel_rfl
theorem jx7 (a b c d e f g h : Value) (w : World) : (Instr.index 77 (.agg #[a, b, c, d, e, f, g, h]) (.int .i64 7)).run Tryd.prog w = .ok h w := by kernel_rfl

theorem ixk (t : Ms.St) (k : Nat) (h : k < 8) (w : World) : (Instr.index 76 (.agg #[num t.a, num t.b, num t.c, num t.d, num t.e, num t.f, num t.g, num t.h]) (.int .i64 (k : Int))).run Tryd.prog w = .ok (num (t.list.getD k 0)) w := by
  match k, h with
  | 0, _ => exact ix0 _ _ _ _ _ _ _ _ w
  | 1, _ => exact ix1 _ _ _ _ _ _ _ _ w
  | 2, _ => exact ix2 _ _ _ _ _ _ _ _ w
  | 3, _ => exact ix3 _ _ _ _ _ _ _ _ w
  | 4, _ => exact ix4 _ _ _ _ _ _ _ _ w
  | 5, _ => exact ix5 _ _ _ _ _ _ _ _ w
  | 6, _ => exact ix6 _ _ _ _ _ _ _ _ w
  | 7, _ => exact ix7 _ _ _ _ _ _ _ _ w
theorem jxk (t : Ms.St) (k : Nat) (h : k < 8) (w : World) : (Instr.index 77 (.agg (stCells t)) (.int .i64 (k : Int))).run Tryd.prog w = .ok (num (t.list.getD k 0)) w := by
  match k, h with
  | 0, _ => exact jx0 _ _ _ _ _ _ _ _ w
  | 1, _ => exact jx1 _ _ _ _ _ _ _ _ w
  | 2, _ => exact jx2 _ _ _ _ _ _ _ _ w
  | 3, _ => exact jx3 _ _ _ _ _ _ _ _ w
  | 4, _ => exact jx4 _ _ _ _ _ _ _ _ w
  | 5, _ => exact jx5 _ _ _ _ _ _ _ _ w
  | 6, _ => exact jx6 _ _ _ _ _ _ _ _ w
  | 7, _ => exact jx7 _ _ _ _ _ _ _ _ w
theorem stCells_at (s : Ms.St) (j : Nat) (hj : j < 8) : (stCells s)[j]? = some (num (s.list.getD j 0)) := by
  match j, hj with
  | 0, _ => rfl
  | 1, _ => rfl
  | 2, _ => rfl
  | 3, _ => rfl
  | 4, _ => rfl
  | 5, _ => rfl
  | 6, _ => rfl
  | 7, _ => rfl
theorem plus_at (s t : Ms.St) (j : Nat) (hj : j < 8) : (Ms.plus s t).list.getD j 0 = Ms.add (s.list.getD j 0) (t.list.getD j 0) := by
  match j, hj with
  | 0, _ => rfl
  | 1, _ => rfl
  | 2, _ => rfl
  | 3, _ => rfl
  | 4, _ => rfl
  | 5, _ => rfl
  | 6, _ => rfl
  | 7, _ => rfl
theorem row_st {w : World} {g : Nat} {t : TypeId} {s : Ms.St} {f : Nat → Value} (h : w.rowIs g t 8 f) (hf : ∀ j, j < 8 → f j = num (s.list.getD j 0)) : w.heap[g]? = some (.cells (stCells s) t (0, 0)) := by
  obtain ⟨c, hc, hn, hcell⟩ := h
  have e : c = stCells s := by
    apply Array.ext_getElem?
    intro i
    by_cases hi : i < 8
    · rw [hcell i hi, hf i hi, stCells_at s i hi]
    · rw [Array.getElem?_eq_none (by omega), Array.getElem?_eq_none (by simp [stCells]; omega)]
  rw [hc, e]
theorem stCells_one (s : Ms.St) : (stCells s).all (·.oneCell') = true := by
  rw [Array.all_eq_true_iff_forall_mem]
  intro v hv
  simp [stCells] at hv
  rcases hv with rfl | rfl | rfl | rfl | rfl | rfl | rfl | rfl <;> rfl
theorem info_st (s : Ms.St) : (Tryd.prog.info? 77).map (·.size) = some (stCells s).size := by
  show _ = some 8
  kernel_rfl

/-- What holds at the head of a round of the last loop: k numbers of the state are added. -/
def Rel3 (s t : Ms.St) (w0 : World) (i : Value) (w : World) : Prop :=
  ∃ (k : Nat) (f : Nat → Value), k ≤ 8 ∧ i = .int .i64 k ∧ w.rowIs w0.heap.size 77 8 f ∧ (∀ j, j < k → f j = num ((Ms.plus s t).list.getD j 0)) ∧ (∀ j, k ≤ j → j < 8 → f j = num (s.list.getD j 0)) ∧
    (∃ o, o.size = 8 ∧ w.heap[w0.heap.size + 1]? = some (.cells o 77 (0, 0))) ∧ Below w0.heap.size w0 w
theorem Rel3.step {s t : Ms.St} {w0 w : World} {k : Nat} {f : Nat → Value} (hk : k < 8) (hrow : w.rowIs w0.heap.size 77 8 f) (hlo : ∀ j, j < k → f j = num ((Ms.plus s t).list.getD j 0))
    (hhi : ∀ j, k ≤ j → j < 8 → f j = num (s.list.getD j 0)) (hr : ∃ o, o.size = 8 ∧ w.heap[w0.heap.size + 1]? = some (.cells o 77 (0, 0))) (hbel : Below w0.heap.size w0 w) :
    Rel3 s t w0 (.int .i64 ((k + 1 : Nat) : Int)) (w.setCell ⟨w0.heap.size, k, none⟩ (num (Ms.add (s.list.getD k 0) (t.list.getD k 0)))) := by
  refine ⟨k + 1, _, by omega, rfl, hrow.set _ _, fun j hj => ?_, fun j h1 h2 => ?_, ?_, hbel.setCell (Nat.le_refl _) _⟩
  · show (if j = k then _ else f j) = _
    by_cases h : j = k
    · rw [if_pos h, h, plus_at s t k hk]
    · rw [if_neg h]; exact hlo j (by omega)
  · show (if j = k then _ else f j) = _
    rw [if_neg (by omega)]; exact hhi j (by omega) h2
  · obtain ⟨o, ho, hh⟩ := hr
    exact ⟨o, ho, by rw [Go.Deep.blk_setCell_other _ _ _ _ (by show w0.heap.size + 1 ≠ w0.heap.size; omega)]; exact hh⟩

/-- What holds at the head of a round. -/
def Rel (s : Ms.St) (l : List UInt8) (W : World) (a b c d e f g h i : Value) (w : World) : Prop :=
  ∃ k m : Nat, k ≤ 64 ∧ i = .int .i64 k ∧ a = num (Ms.rnds s l k).a ∧ b = num (Ms.rnds s l k).b ∧ c = num (Ms.rnds s l k).c ∧ d = num (Ms.rnds s l k).d ∧ e = num (Ms.rnds s l k).e ∧ f = num (Ms.rnds s l k).f ∧ g = num (Ms.rnds s l k).g ∧ h = num (Ms.rnds s l k).h ∧ w = W.drewN m

set_option maxRecDepth 100000 in
set_option maxHeartbeats 1600000 in
theorem with_impl (s : Ms.St) (b off cap : Nat) (l : List UInt8) (w : World) (hs : s.ok) (hL : Laid w) (hb : b < w.heap.size) (hcap : 64 ≤ cap) (hcm : cap ≤ maxLen)
    (hc : ∀ j, j < 64 → w.cell? ⟨b, off + j, none⟩ = some (.int .u8 (Ms.byteAt l j : Nat))) :
    Calls Tryd.prog 57 #[.agg (stCells s), .slice (some ⟨b, off, none⟩) 64 cap] w fun e w' => e = .returned (.agg (stCells (Ms.blk s l))) ∧ Below w.heap.size w w' := by
  have hsz : (wCells l).size = 64 := by simp [wCells]
  have hinfo : (Tryd.prog.info? 81).map (·.size) = some (wCells l).size := by rw [hsz]; kernel_rfl
  have Hstate : Hid (stCells s = #[num s.a, num s.b, num s.c, num s.d, num s.e, num s.f, num s.g, num s.h]) := rfl
  rw [Hstate.out]
  go_enter Tryd.func57, Tryd.ntmps57
  go_wp2_with fail
  refine (K1.nums_impl b off cap l _ (by simp; omega) hcap hcm ?_).mono ?_
  · intro j hj
    have := hc j hj
    go_simp
  rintro e w1 ⟨rfl, hb1⟩
  obtain ⟨hA1, hR1, hz1, hbel1⟩ := C9.two_laid hb1
  have HA1 : Hid (w1.heap[w.heap.size]? = some (.cells (stCells s) 77 (0, 0))) := hA1
  have HR1 : Hid (∃ o, o.size = 8 ∧ w1.heap[w.heap.size + 1]? = some (.cells o 77 (0, 0))) := ⟨_, rfl, hR1⟩
  clear hb1 hA1 hR1
  go_wp2_with (refine C9.wpList_store_whole rfl rfl 81 _ _ rfl _ rfl _ rfl _ (run_storeAt_new w1 81 _ (wCells l) hinfo (by rw [hsz]; rfl) (K1.wCells_one l)) ?_)
  obtain ⟨W, hW⟩ : ∃ x, w1.alloc (.cells (wCells l) 81) = x := ⟨_, rfl⟩
  rw [hW]
  have HA : Hid (W.heap[w.heap.size]? = some (.cells (stCells s) 77 (0, 0))) := by rw [← hW, blk_alloc_lt _ _ _ (by omega)]; exact HA1.out
  have HR : Hid (∃ o, o.size = 8 ∧ W.heap[w.heap.size + 1]? = some (.cells o 77 (0, 0))) := by rw [← hW, blk_alloc_lt _ _ _ (by omega)]; exact HR1.out
  have hG : W.heap[w1.heap.size]? = some (.cells (wCells l) 81 (0, 0)) := by rw [← hW, blk_alloc_new]
  have HB : Hid (Below w.heap.size w W) := by rw [← hW]; exact hbel1.alloc (by omega) _
  have HG : Hid (∀ i, i < 64 → W.cell? ⟨w1.heap.size, i, none⟩ = some (num (Ms.wAt l i))) := fun i hi => by rw [cell_at hG, wCells_at l i hi]
  have HL : Hid (∀ i, i < 64 → W.cell? ⟨0, i, none⟩ = some (num (Ms.key i))) := hL.below HB.out
  clear hW HA1 HR1 hG hbel1
  have k0 : W.cell? ⟨w.heap.size, 0, none⟩ = some (num s.a) := cell_at HA.out 0
  have k1 : W.cell? ⟨w.heap.size, 1, none⟩ = some (num s.b) := cell_at HA.out 1
  have k2 : W.cell? ⟨w.heap.size, 2, none⟩ = some (num s.c) := cell_at HA.out 2
  have k3 : W.cell? ⟨w.heap.size, 3, none⟩ = some (num s.d) := cell_at HA.out 3
  have k4 : W.cell? ⟨w.heap.size, 4, none⟩ = some (num s.e) := cell_at HA.out 4
  have k5 : W.cell? ⟨w.heap.size, 5, none⟩ = some (num s.f) := cell_at HA.out 5
  have k6 : W.cell? ⟨w.heap.size, 6, none⟩ = some (num s.g) := cell_at HA.out 6
  have k7 : W.cell? ⟨w.heap.size, 7, none⟩ = some (num s.h) := cell_at HA.out 7
  go_quiet (fail)
  clear k0 k1 k2 k3 k4 k5 k6 k7
  go_wp2_with fail
  go_loopw [6, 7, 8, 9, 10, 11, 12, 13, 39] (fun a b c d e f g h i wr => Rel s l W a b c d e f g h i wr) (fun _ _ _ _ _ _ _ _ i _ => 64 - (intOf i).toNat)
  case atStart => exact ⟨0, nq, by omega, rfl, rfl, rfl, rfl, rfl, rfl, rfl, rfl, rfl, rfl⟩
  case round =>
    obtain ⟨k, m, hk, rfl, rfl, rfl, rfl, rfl, rfl, rfl, rfl, rfl, hw⟩ := hrel
    have ht := Ms.rnds_ok l hs k
    by_cases hlt : k < 64
    · have HS : Hid (Ms.rnds s l (k + 1) = Ms.rnd (Ms.rnds s l k) (Ms.key k) (Ms.wAt l k)) := rfl
      have hck : wr.cell? ⟨0, k, none⟩ = some (num (Ms.key k)) := by rw [hw]; exact HL.out k hlt
      have hcw : wr.cell? ⟨w1.heap.size, k, none⟩ = some (num (Ms.wAt l k)) := by rw [hw]; exact HG.out k hlt
      have Hw : Hid (wr = W.drewN m) := hw
      clear hw
      generalize Ms.rnds s l k = t at *
      generalize Ms.key k = key at *
      generalize Ms.wAt l k = wat at *
      obtain ⟨ta, tb, tc, td, te, tf, tg, th⟩ := t
      obtain ⟨oa, ob, oc, od, oe, of, og, oh⟩ := ht
      simp only at oa ob oc od oe of og oh
      simp only
      go_wp2_with (first | (go_at_call 61; refine (K0.turn_any _ _ _ oe (by decide) (by decide)).mono ?_; rintro e w' ⟨rfl, rfl⟩))
      rw [K0.up1_eq te oe]
      go_quiet (fail)
      go_wp2_with (first | (go_at_call 61; refine (K0.turn_any _ _ _ oa (by decide) (by decide)).mono ?_; rintro e w' ⟨rfl, rfl⟩))
      rw [K0.ch_eq te tf tg oe of og, K0.maj_eq ta tb tc oa ob oc, K0.up0_eq ta oa]
      go_roundw
      case rel =>
        refine ⟨k + 1, m + nq, by omega, by go_num, ?_, ?_, ?_, ?_, ?_, ?_, ?_, ?_, by rw [Hw.out, World.drewN_drewN]⟩
        all_goals rw [HS.out]
        all_goals try rfl
        · rw [K0.t1_eq ⟨ta, tb, tc, td, te, tf, tg, th⟩, K0.t2_eq ⟨ta, tb, tc, td, te, tf, tg, th⟩, K0.add_mod]; rfl
        · rw [K0.t1_eq ⟨ta, tb, tc, td, te, tf, tg, th⟩, K0.add_mod]; rfl
      case measure => simp [intOf]; omega
    · obtain rfl : k = 64 := by omega
      have HBK : Hid (Ms.blk s l = Ms.plus s (Ms.rnds s l 64)) := rfl
      have HC : Hid (wr.heap[w.heap.size]? = some (.cells (stCells s) 77 (0, 0))) := by rw [hw]; exact HA.out
      have HD : Hid (∃ o, o.size = 8 ∧ wr.heap[w.heap.size + 1]? = some (.cells o 77 (0, 0))) := by rw [hw]; exact HR.out
      have HE : Hid (Below w.heap.size w wr) := by rw [hw]; exact below_drewN HB.out m
      clear hw HA HR HB HG HL hc
      generalize Ms.rnds s l 64 = t at *
      have HQ : Hid (Rel3 s t w (.int .i64 0) wr) := ⟨0, fun j => num (s.list.getD j 0), by omega, rfl, ⟨_, HC.out, rfl, stCells_at s⟩, fun j hj => by omega, fun _ _ _ => rfl, HD.out, HE.out⟩
      clear HC HD HE
      go_wp2_with fail
      go_loopw [113] (fun i wr => Rel3 s t w i wr) (fun i _ => 8 - (intOf i).toNat)
      case atStart => exact HQ.out
      case round =>
        clear HQ
        obtain ⟨k, f, hk8, rfl, hrow, hlo, hhi, hr, hbel⟩ := hrel
        by_cases hl8 : k < 8
        · have hx := ixk t k hl8
          have hcell : wr.cell? ⟨w.heap.size, k, none⟩ = some (num (s.list.getD k 0)) := by rw [← hhi k (Nat.le_refl _) hl8]; exact hrow.cell hl8
          have hfr := hrow.frozen k
          have hadd := K0.add_mod (s.list.getD k 0) (t.list.getD k 0)
          have HN : Hid (Rel3 s t w (.int .i64 ((k + 1 : Nat) : Int)) (wr.setCell ⟨w.heap.size, k, none⟩ (num (Ms.add (s.list.getD k 0) (t.list.getD k 0))))) := Rel3.step hl8 hrow hlo hhi hr hbel
          generalize s.list.getD k 0 = sk at *
          generalize t.list.getD k 0 = tk at *
          clear hrow hlo hhi hr hbel
          go_wp2
          go_roundw
          case rel => exact HN.out
          case measure => simp [intOf]; omega
        · obtain rfl : k = 8 := by omega
          have hH : wr.heap[w.heap.size]? = some (.cells (stCells (Ms.plus s t)) 77 (0, 0)) := row_st hrow hlo
          obtain ⟨o, hoz, hO⟩ := hr
          have hi8 := info_st (Ms.plus s t)
          have hld := C9.load_row (P := Tryd.prog) wr w.heap.size 77 _ _ _ 8 _ hH Tryd.underlying77 hi8
          have hst := C9.store_row (P := Tryd.prog) wr (w.heap.size + 1) 77 _ o _ hO hi8 hoz (stCells_one (Ms.plus s t))
          have HX : Hid ((wr.setRow (w.heap.size + 1) (stCells (Ms.plus s t))).heap[w.heap.size + 1]? = some (.cells (stCells (Ms.plus s t)) 77 (0, 0))) := setRow_heap wr _ _ _ _ _ hO
          have HY : Hid (Below w.heap.size w (wr.setRow (w.heap.size + 1) (stCells (Ms.plus s t)))) := below_setRow hbel (Nat.le_succ _) _
          have HRES : Hid (stCells (Ms.blk s l) = stCells (Ms.plus s t)) := by rw [HBK.out]; exact rfl
          generalize stCells (Ms.plus s t) = res at *
          clear hrow hlo hhi hbel hH hO hoz
          go_wp2_with (first
            | (refine C9.wpList_load_whole rfl 77 _ rfl _ rfl _ hld ?_)
            | (refine C9.wpList_store_whole rfl rfl 77 _ _ rfl _ rfl _ rfl _ hst ?_))
          exact bodyPost_ret (v := .agg res) (C9.results_row rfl _ _ (w.heap.size + 1) _ res _ 8 _ rfl HX.out Tryd.underlying77 hi8) rfl ⟨ret_val (by rw [HRES.out]), HY.out⟩
end Go.Proofs.YtkpjdmmgdmbmnabDoor.K2
