/-
  The digest of a text, as the program makes it.
-/
import Derived.Test.YtkpjdmmgdmbmnabDoorK4
namespace Go.Proofs.YtkpjdmmgdmbmnabDoor.K5
open Go.RowKit
open Go.Proofs.YtkpjdmmgdmbmnabDoor.C0
open Go.Proofs.YtkpjdmmgdmbmnabDoor.K1 (num)
open Go.Proofs.YtkpjdmmgdmbmnabDoor.K2 (stCells Laid)
open Go.Proofs.YtkpjdmmgdmbmnabDoor.K3 (byt bytesOf)
open Go.Deep (blk_alloc_lt blk_alloc_new nblk_alloc)

set_option maxRecDepth 100000 in
theorem first_impl (w : World) : Calls Tryd.prog 56 #[] w fun e w' => e = .returned (.agg (stCells Ms.start)) ∧ Below w.heap.size w w' := by
  have hi8 := K2.info_st Ms.start
  go_enter Tryd.func56, Tryd.ntmps56
  go_wp2
  refine bodyPost_ret (v := .agg (stCells Ms.start)) (C9.results_row rfl _ _ w.heap.size 77 (stCells Ms.start) (0, 0) 8 _ rfl ?_ Tryd.underlying77 hi8) rfl ⟨rfl, ?_⟩
  · exact blk_alloc_new _ _
  · exact (Below.refl _ _).alloc (Nat.le_refl _) _

/-- The state is written over, number by number. -/
theorem set8 {w : World} {S : Nat} {s : Ms.St} {t : TypeId} (r : Ms.St) (h : w.heap[S]? = some (.cells (stCells s) t (0, 0))) :
    ((((((((w.setCell ⟨S, 0, none⟩ (num r.a)).setCell ⟨S, 1, none⟩ (num r.b)).setCell ⟨S, 2, none⟩ (num r.c)).setCell ⟨S, 3, none⟩ (num r.d)).setCell ⟨S, 4, none⟩ (num r.e)).setCell ⟨S, 5, none⟩ (num r.f)).setCell ⟨S, 6, none⟩ (num r.g)).setCell ⟨S, 7, none⟩ (num r.h)).heap[S]? = some (.cells (stCells r) t (0, 0)) := by
  have h0 : w.rowIs S t 8 (fun j => num (s.list.getD j 0)) := ⟨_, h, rfl, K2.stCells_at s⟩
  refine K2.row_st ((((((((h0.set 0 _).set 1 _).set 2 _).set 3 _).set 4 _).set 5 _).set 6 _).set 7 _) (fun j hj => ?_)
  match j, hj with
  | 0, _ => rfl
  | 1, _ => rfl
  | 2, _ => rfl
  | 3, _ => rfl
  | 4, _ => rfl
  | 5, _ => rfl
  | 6, _ => rfl
  | 7, _ => rfl
theorem set8_other {w : World} {S k : Nat} (r : Ms.St) (h : k ≠ S) :
    ((((((((w.setCell ⟨S, 0, none⟩ (num r.a)).setCell ⟨S, 1, none⟩ (num r.b)).setCell ⟨S, 2, none⟩ (num r.c)).setCell ⟨S, 3, none⟩ (num r.d)).setCell ⟨S, 4, none⟩ (num r.e)).setCell ⟨S, 5, none⟩ (num r.f)).setCell ⟨S, 6, none⟩ (num r.g)).setCell ⟨S, 7, none⟩ (num r.h)).heap[k]? = w.heap[k]? := by
  rw [heap_setCell_other _ _ _ _ h, heap_setCell_other _ _ _ _ h, heap_setCell_other _ _ _ _ h, heap_setCell_other _ _ _ _ h, heap_setCell_other _ _ _ _ h, heap_setCell_other _ _ _ _ h, heap_setCell_other _ _ _ _ h, heap_setCell_other _ _ _ _ h]
theorem set8_below {B : Nat} {w0 w : World} {S : Nat} (r : Ms.St) (hB : B ≤ S) (h : Below B w0 w) :
    Below B w0 ((((((((w.setCell ⟨S, 0, none⟩ (num r.a)).setCell ⟨S, 1, none⟩ (num r.b)).setCell ⟨S, 2, none⟩ (num r.c)).setCell ⟨S, 3, none⟩ (num r.d)).setCell ⟨S, 4, none⟩ (num r.e)).setCell ⟨S, 5, none⟩ (num r.f)).setCell ⟨S, 6, none⟩ (num r.g)).setCell ⟨S, 7, none⟩ (num r.h)) :=
  ((((((((h.setCell (by exact hB) _).setCell (by exact hB) _).setCell (by exact hB) _).setCell (by exact hB) _).setCell (by exact hB) _).setCell (by exact hB) _).setCell (by exact hB) _).setCell (by exact hB) _)

/-- What holds at the head of a round: k blocks are taken. -/
def Rel (p : List UInt8) (n : Nat) (w0 : World) (S : Nat) (i : Value) (w : World) : Prop :=
  ∃ k : Nat, k ≤ n ∧ i = .int .i64 k ∧ w.heap[S]? = some (.cells (stCells (Ms.states p k)) 77 (0, 0)) ∧ (∀ j, j < 64 * n → w.cell? ⟨w0.heap.size, j, none⟩ = some (byt (Ms.byteAt p j))) ∧ Below w0.heap.size w0 w

theorem Rel.next {p : List UInt8} {n k S : Nat} {w0 wr w3 : World} {st st' : Ms.St} (hlt : k < n) (hS : w0.heap.size < S) (hbs : w0.heap.size < wr.heap.size) (he : Ms.states p (k + 1) = st') (hst : wr.heap[S]? = some (.cells (stCells st) 77 (0, 0)))
    (hc : ∀ j, j < 64 * n → wr.cell? ⟨w0.heap.size, j, none⟩ = some (byt (Ms.byteAt p j))) (hbel : Below w0.heap.size w0 wr) (hb3 : Below wr.heap.size wr w3) :
    Rel p n w0 S (.int .i64 ((k + 1 : Nat) : Int)) ((((((((w3.setCell ⟨S, 0, none⟩ (num st'.a)).setCell ⟨S, 1, none⟩ (num st'.b)).setCell ⟨S, 2, none⟩ (num st'.c)).setCell ⟨S, 3, none⟩ (num st'.d)).setCell ⟨S, 4, none⟩ (num st'.e)).setCell ⟨S, 5, none⟩ (num st'.f)).setCell ⟨S, 6, none⟩ (num st'.g)).setCell ⟨S, 7, none⟩ (num st'.h)) := by
  have hSl : S < wr.heap.size := (Array.getElem?_eq_some_iff.1 hst).1
  refine ⟨k + 1, hlt, rfl, ?_, fun j hj => ?_, ?_⟩
  · rw [he]
    exact set8 st' (by rw [hb3.block S hSl]; exact hst)
  · rw [← hc j hj, ← hb3.cell (p := ⟨w0.heap.size, j, none⟩) hbs]
    exact World.cell?_of_block (set8_other st' (by show w0.heap.size ≠ S; omega))
  · exact set8_below st' (by omega) (hbel.trans (hb3.mono (by omega)))

set_option maxRecDepth 100000 in
set_option maxHeartbeats 1600000 in
theorem digest_impl (s : ByteArray) (w : World) (hs : s.size ≤ 20000) (hL : Laid w) :
    Calls Tryd.prog 48 #[.string s] w fun e w' => e = .returned (.string ⟨(Ms.digest (bytesOf s)).toArray⟩) ∧ Below w.heap.size w w' := by
  obtain ⟨n, hn⟩ : ∃ n, Ms.blocks s.size = n := ⟨_, rfl⟩
  have hnb : n ≤ 400 := by rw [← hn]; unfold Ms.blocks; omega
  have hn0 : 0 < n := by rw [← hn]; unfold Ms.blocks; omega
  have HD : Hid (Ms.digest (bytesOf s) = Ms.bytes (Ms.states (Ms.pad (bytesOf s)) n)) := by
    unfold Hid Ms.digest; rw [show (bytesOf s).length = s.size by simp, hn]
  have hst8 := K2.stCells_one Ms.start
  have hi8 := K2.info_st Ms.start
  go_enter Tryd.func48, Tryd.ntmps48
  go_wp2_with fail
  refine (K3.padded_impl s _ hs).mono ?_
  rintro e w1 ⟨rfl, hb1, hc1, hz1⟩
  rw [hn]
  rw [hn] at hc1
  go_wp2_with fail
  refine (first_impl _).mono ?_
  rintro e w2 ⟨rfl, hb2⟩
  have hd : (64 * (n : Int)) / 64 = (n : Int) := by omega
  go_wp2_with (refine C9.wpList_store_whole rfl rfl 77 _ _ rfl _ rfl _ rfl _ (run_storeAt_new w2 77 _ (stCells Ms.start) hi8 rfl hst8) ?_)
  obtain ⟨W, hW⟩ : ∃ x, w2.alloc (.cells (stCells Ms.start) 77) = x := ⟨_, rfl⟩
  rw [hW]
  have hb12 : Below w.heap.size w w2 := hb1.trans (hb2.mono (by omega))
  have HQ : Hid (Rel (Ms.pad (bytesOf s)) n w w2.heap.size (.int .i64 0) W) := by
    refine ⟨0, by omega, rfl, by rw [← hW, blk_alloc_new]; rfl, fun j hj => ?_, by rw [← hW]; exact hb12.alloc (by have := hb2.size; omega) _⟩
    rw [← hc1 j hj, ← hW]
    exact ((hb2.alloc hb2.size _).cell (p := ⟨w.heap.size, j, none⟩) hz1)
  have hS : w.heap.size < w2.heap.size := by have := hb2.size; omega
  obtain ⟨S, hSe⟩ : ∃ S, w2.heap.size = S := ⟨_, rfl⟩
  rw [hSe]
  rw [hSe] at HQ hS
  clear hW hb12 hb1 hb2 hc1 hz1 hi8 hst8 hSe
  generalize Ms.pad (bytesOf s) = p at *
  go_loopw [12] (fun i wr => Rel p n w S i wr) (fun i _ => n - (intOf i).toNat)
  case atStart => exact HQ.out
  case round =>
    clear HQ
    obtain ⟨k, hk, rfl, hst, hc, hbel⟩ := hrel
    have hok := Ms.states_ok p k
    have hLr := hL.below hbel
    by_cases hlt : k < n
    · have HS : Hid (Ms.states p (k + 1) = Ms.blk (Ms.states p k) ((p.drop (64 * k)).take 64)) := rfl
      have hbs : w.heap.size < wr.heap.size := by
        have h0 := hc 0 (by omega)
        rcases Nat.lt_or_ge w.heap.size wr.heap.size with h | h
        · exact h
        · simp [World.cell?, Array.getElem?_eq_none h] at h0
      have hcall := K2.with_impl (Ms.states p k) w.heap.size (k * 64) (64 * n - k * 64) ((p.drop (64 * k)).take 64) wr.drew hok hLr hbs (by omega) (by unfold maxLen; omega) (fun j hj => by
        show wr.cell? _ = _
        rw [hc (k * 64 + j) (by omega), Ms.byteAt_take _ _ _ hj, Ms.byteAt_drop, show 64 * k + j = k * 64 + j by omega])
      have hcall2 : Calls Tryd.prog 57 #[.agg #[num (Ms.states p k).a, num (Ms.states p k).b, num (Ms.states p k).c, num (Ms.states p k).d, num (Ms.states p k).e, num (Ms.states p k).f, num (Ms.states p k).g, num (Ms.states p k).h], .slice (some ⟨w.heap.size, k * 64, none⟩) 64 (64 * n - k * 64)] wr.drew
          fun e w' => e = .returned (.agg #[num (Ms.states p (k + 1)).a, num (Ms.states p (k + 1)).b, num (Ms.states p (k + 1)).c, num (Ms.states p (k + 1)).d, num (Ms.states p (k + 1)).e, num (Ms.states p (k + 1)).f, num (Ms.states p (k + 1)).g, num (Ms.states p (k + 1)).h]) ∧ Below wr.heap.size wr w' ∧
            (∀ j, j < 8 → w'.cell? ⟨S, j, none⟩ = some (num ((Ms.states p k).list.getD j 0))) ∧ (∀ j, w'.frozen? ⟨S, j, none⟩ = false) := by
        have hSl : S < wr.heap.size := (Array.getElem?_eq_some_iff.1 hst).1
        refine hcall.mono ?_
        rintro e w3 ⟨rfl, hb3⟩
        have hb4 : Below wr.heap.size wr w3 := ⟨hb3.os, hb3.tape, hb3.output, hb3.size, hb3.block⟩
        refine ⟨by rw [HS.out]; rfl, hb4, fun j hj => ?_, fun j => ?_⟩
        · rw [hb4.cell (p := ⟨S, j, none⟩) hSl, K2.cell_at hst, K2.stCells_at _ j hj]
        · rw [hb4.frozen (p := ⟨S, j, none⟩) hSl]; exact K2.frozen_at hst j
      have k0 : wr.cell? ⟨S, 0, none⟩ = some (num (Ms.states p k).a) := K2.cell_at hst 0
      have k1 : wr.cell? ⟨S, 1, none⟩ = some (num (Ms.states p k).b) := K2.cell_at hst 1
      have k2 : wr.cell? ⟨S, 2, none⟩ = some (num (Ms.states p k).c) := K2.cell_at hst 2
      have k3 : wr.cell? ⟨S, 3, none⟩ = some (num (Ms.states p k).d) := K2.cell_at hst 3
      have k4 : wr.cell? ⟨S, 4, none⟩ = some (num (Ms.states p k).e) := K2.cell_at hst 4
      have k5 : wr.cell? ⟨S, 5, none⟩ = some (num (Ms.states p k).f) := K2.cell_at hst 5
      have k6 : wr.cell? ⟨S, 6, none⟩ = some (num (Ms.states p k).g) := K2.cell_at hst 6
      have k7 : wr.cell? ⟨S, 7, none⟩ = some (num (Ms.states p k).h) := K2.cell_at hst 7
      have hst0 : Hid (wr.heap[S]? = some (.cells (stCells (Ms.states p k)) 77 (0, 0))) := hst
      have hc0 : Hid (∀ j, j < 64 * n → wr.cell? ⟨w.heap.size, j, none⟩ = some (byt (Ms.byteAt p j))) := hc
      have hbel0 : Hid (Below w.heap.size w wr) := hbel
      generalize Ms.states p k = st at *
      obtain ⟨st', hst'⟩ : ∃ x, Ms.states p (k + 1) = x := ⟨_, rfl⟩
      have Hst' : Hid (Ms.states p (k + 1) = st') := hst'
      rw [hst'] at hcall2 HS
      clear hst'
      clear hcall hst hc hok hbel hLr
      have q1 : IntKind.i64.wrap ((k : Int) * 64) = ((k * 64 : Nat) : Int) := by rw [IntKind.wrap_i64]; omega
      have q2 : IntKind.i64.wrap ((k : Int) + 1) = ((k + 1 : Nat) : Int) := by rw [IntKind.wrap_i64]; omega
      have q3 : IntKind.i64.wrap (((k : Int) + 1) * 64) = (((k + 1) * 64 : Nat) : Int) := by rw [IntKind.wrap_i64]; omega
      have h4 : (k + 1) * 64 - k * 64 = 64 := by omega
      have h5 : ((k : Int) + 1) * 64 ≤ 64 * (n : Int) := by omega
      go_wp2_with fail
      go_region_with (go_at_call 57; refine hcall2.mono ?_; rintro e w3 ⟨rfl, hb3, hc3, hf3⟩)
      all_goals
        have hSl : S < wr.heap.size := (Array.getElem?_eq_some_iff.1 hst0.out).1
        have HN : Hid (Rel p n w S (.int .i64 ((k + 1 : Nat) : Int)) ((((((((w3.setCell ⟨S, 0, none⟩ (num st'.a)).setCell ⟨S, 1, none⟩ (num st'.b)).setCell ⟨S, 2, none⟩ (num st'.c)).setCell ⟨S, 3, none⟩ (num st'.d)).setCell ⟨S, 4, none⟩ (num st'.e)).setCell ⟨S, 5, none⟩ (num st'.f)).setCell ⟨S, 6, none⟩ (num st'.g)).setCell ⟨S, 7, none⟩ (num st'.h))) :=
          Rel.next hlt hS hbs Hst'.out (hst0.out) hc0.out hbel0.out hb3
        clear hSl hb3 hc3 hf3 hcall2 k0 k1 k2 k3 k4 k5 k6 k7
        go_wp2
        go_roundw
        case rel => exact HN.out
        case measure => simp [intOf]; omega
    · obtain rfl : k = n := by omega
      have hH := hst
      have hi8 := K2.info_st (Ms.states p k)
      have hld := C9.load_row (P := Tryd.prog) wr S 77 _ _ _ 8 _ hH Tryd.underlying77 hi8
      have HB : Hid (Below w.heap.size w wr) := hbel
      generalize Ms.states p k = st at *
      clear hst hc hbel hH hi8 hLr
      go_wp2_with (first
        | (go_at_call 58; refine (K4.text_impl st _ hok).mono ?_; rintro e w3 ⟨rfl, hb3⟩)
        | (refine C9.wpList_load_whole rfl 77 _ rfl _ rfl _ hld ?_))
      go_ret
      exact ⟨ret_str HD.out.symm, HB.out.trans (hb3.mono HB.out.size)⟩
end Go.Proofs.YtkpjdmmgdmbmnabDoor.K5
