/-
  One block more, as the specification takes it.
-/
import Derived.Test.YtkpjdmmgdmbmnabDoorK6
import Derived.Test.YtkpjdmmgdmbmnabDoorK3
import Derived.Deep.RegionHeld3
import Derived.Deep.AppendLies
namespace Go.Proofs.YtkpjdmmgdmbmnabDoor.K7
open Go.RowKit
open Go.Proofs.YtkpjdmmgdmbmnabDoor.C0
open Go.Proofs.YtkpjdmmgdmbmnabDoor.K1 (num wCells)
open Go.Proofs.YtkpjdmmgdmbmnabDoor.K3 (byt bytesOf)
open Go.Proofs.YtkpjdmmgdmbmnabDoor.K6 (Rel Rel2)
open Go.Deep (blk_alloc_lt blk_alloc_new nblk_alloc)

theorem index_byte (b : ByteArray) (j : Nat) (z : Int) (hj : j < b.size) (hz : z = (j : Int)) (w : World) :
    (Instr.index 9 (.string b) (.int .i64 z)).run Tryd.prog w = .ok (byt (Ms.byteAt (bytesOf b) j)) w := by
  subst hz
  rw [run_index_string w 9 b .i64 j Tryd.underlying9, Ms.byteAt_eq _ _ (by simpa using hj), dif_pos ⟨by omega, by omega⟩]
  rfl

theorem or_word (l : List UInt8) (k : Nat) : bits .or .u32 (bits .or .u32 (bits .or .u32 (((Ms.byteAt l (4 * k) : Nat) : Int) * 16777216) (((Ms.byteAt l (4 * k + 1) : Nat) : Int) * 65536)) (((Ms.byteAt l (4 * k + 2) : Nat) : Int) * 256)) ((Ms.byteAt l (4 * k + 3) : Nat) : Int) = ((Ms.word l k : Nat) : Int) := by
  have h0 := Ms.byteAt_lt l (4 * k)
  have h1 := Ms.byteAt_lt l (4 * k + 1)
  have h2 := Ms.byteAt_lt l (4 * k + 2)
  have h3 := Ms.byteAt_lt l (4 * k + 3)
  unfold Ms.word
  generalize Ms.byteAt l (4 * k) = a at *
  generalize Ms.byteAt l (4 * k + 1) = b at *
  generalize Ms.byteAt l (4 * k + 2) = c at *
  generalize Ms.byteAt l (4 * k + 3) = d at *
  rw [show ((a : Int) * 16777216) = ((a * 16777216 : Nat) : Int) by simp, show ((b : Int) * 65536) = ((b * 65536 : Nat) : Int) by simp, show ((c : Int) * 256) = ((c * 256 : Nat) : Int) by simp]
  rw [u32_or_nat _ _ (by omega) (by omega), nat_join 24 (a * 16777216) (b * 65536) (by omega) (by omega)]
  rw [u32_or_nat _ _ (by omega) (by omega), nat_join 16 _ (c * 256) (by omega) (by omega)]
  rw [u32_or_nat _ _ (by omega) (by omega), nat_join 8 _ d (by omega) (by omega)]

theorem own_base {w : World} {B B' e size n : Nat} {v : Value} {xs : List Value} (h : w.ownsRow B' e size v n xs) (hB : B ≤ B') : w.ownsRow B e size v n xs := by
  refine ⟨h.1, ?_⟩
  rcases h.2 with h0 | ⟨g, cap, cur, h1, h2, h3⟩
  · exact .inl h0
  · exact .inr ⟨g, cap, cur, h1, Nat.le_trans hB h2, h3⟩

set_option maxRecDepth 100000 in
set_option maxHeartbeats 1600000 in
theorem block_spec (s : Ms.St) (g cap : Nat) (b : ByteArray) (w : World) (hs : s.ok) (hb : b.size = 64) (hg : g < w.heap.size)
    (hc : ∀ j, j < 8 → w.cell? ⟨g, j, none⟩ = some (.int .i64 (s.list.getD j 0 : Nat))) :
    Calls Tryd.prog 46 #[.slice (some ⟨g, 0, none⟩) 8 cap, .string b] w fun e w' =>
      ∃ v, e = .returned v ∧ w'.ownsRow w.heap.size 2 1 v 8 (K6.i64s (Ms.blk s (bytesOf b)).list) ∧ Below w.heap.size w w' := by
  have hmk := run_make_row' (P := Tryd.prog) 71 72 (.int .u32 0) 4 Tryd.underlying71 K6.info_u32 rfl .i64 .i64 64 (by omega) (by omega)
  have hmk0 : ∀ w, (Instr.makeSlice 71 (.int .i64 64) (.int .i64 64)).run Tryd.prog w = .ok (.slice (some ⟨w.heap.size, 0, none⟩) 64 64) (w.alloc (.cells (madeCells #[.int .u32 0] 64) 72)) := hmk
  clear hmk
  have hrow0 := World.rowIs_made w (.int .u32 0) 64 72
  have HQ : Hid (Rel (bytesOf b) w (.int .i64 0) (w.alloc (.cells (madeCells #[.int .u32 0] 64) 72))) := ⟨0, _, by omega, rfl, hrow0, fun j hj => by omega, (Below.refl _ _).alloc (Nat.le_refl _) _⟩
  clear hrow0
  go_enter Tryd.func46, Tryd.ntmps46
  go_wp2_with fail
  go_loopw [6] (fun i wr => Rel (bytesOf b) w i wr) (fun i _ => 16 - (intOf i).toNat)
  case atStart => exact HQ.out
  case round =>
    clear HQ hmk0
    obtain ⟨k, f, hk, rfl, hrow, hlo, hbel⟩ := hrel
    by_cases hlt : k < 16
    · have q0 : IntKind.i64.wrap (4 * (k : Int)) = ((4 * k : Nat) : Int) := by rw [IntKind.wrap_i64]; omega
      have q1 : IntKind.i64.wrap (4 * (k : Int) + 1) = ((4 * k + 1 : Nat) : Int) := by rw [IntKind.wrap_i64]; omega
      have q2 : IntKind.i64.wrap (4 * (k : Int) + 2) = ((4 * k + 2 : Nat) : Int) := by rw [IntKind.wrap_i64]; omega
      have q3 : IntKind.i64.wrap (4 * (k : Int) + 3) = ((4 * k + 3 : Nat) : Int) := by rw [IntKind.wrap_i64]; omega
      have x0 := index_byte b (4 * k) (4 * (k : Int)) (by omega) (by omega)
      have x1 := index_byte b (4 * k + 1) (4 * (k : Int) + 1) (by omega) (by omega)
      have x2 := index_byte b (4 * k + 2) (4 * (k : Int) + 2) (by omega) (by omega)
      have x3 := index_byte b (4 * k + 3) (4 * (k : Int) + 3) (by omega) (by omega)
      have hw := or_word (bytesOf b) k
      have e0 := Ms.byteAt_lt (bytesOf b) (4 * k)
      have e1 := Ms.byteAt_lt (bytesOf b) (4 * k + 1)
      have e2 := Ms.byteAt_lt (bytesOf b) (4 * k + 2)
      have e3 := Ms.byteAt_lt (bytesOf b) (4 * k + 3)
      obtain ⟨o, ho⟩ : ∃ o, wr.cell? ⟨w.heap.size, k, none⟩ = some o := ⟨_, hrow.cell (by omega)⟩
      have hfr := hrow.frozen k
      have hk64 : (k : Int) < 64 := by omega
      go_wp2_with fail
      refine CT.region_tail 32 (by kernel_rfl) (by kernel_rfl) ?_
      simp only [List.take_succ_cons, List.take_zero, List.drop_succ_cons, List.drop_zero]
      repeat (first | go_big_quiet_skip | (go_big_quiet_want; go_big_quiet_op; go_big_quiet_on))
      refine wpQuiet_nil ?_
      have HN : Hid (Rel (bytesOf b) w (.int .i64 ((k + 1 : Nat) : Int)) ((wr.drew).setCell ⟨w.heap.size, k, none⟩ (num (Ms.word (bytesOf b) k)))) := by
        obtain ⟨f', h1, h2, h3⟩ := K6.row_set (w := wr.drew) hrow hlo (below_drewN hbel 1)
        rw [Ms.wAt_low _ k hlt] at h1 h3
        exact ⟨k + 1, f', hlt, rfl, h1, h2, h3⟩
      clear hrow hlo hbel x0 x1 x2 x3
      go_wp2
      go_roundw
      case rel => exact HN.out
      case measure => simp [intOf]; omega
    · obtain rfl : k = 16 := by omega
      have HR : Hid (Rel2 (bytesOf b) w (.int .i64 16) wr) := ⟨0, f, by omega, rfl, hrow, hlo, hbel⟩
      clear hrow hlo hbel
      go_wp2_with fail
      go_loopw [7] (fun i wr => Rel2 (bytesOf b) w i wr) (fun i _ => 64 - (intOf i).toNat)
      case atStart => exact HR.out
      case round =>
        clear HR
        obtain ⟨n, f, hn, rfl, hrow, hlo, hbel⟩ := hrel
        by_cases hl : n < 48
        · have c0 : wr.cell? ⟨w.heap.size, n, none⟩ = some (num (Ms.wAt (bytesOf b) n)) := by rw [← hlo n (by omega)]; exact hrow.cell (by omega)
          have c1 : wr.cell? ⟨w.heap.size, n + 1, none⟩ = some (num (Ms.wAt (bytesOf b) (n + 1))) := by rw [← hlo (n + 1) (by omega)]; exact hrow.cell (by omega)
          have c9 : wr.cell? ⟨w.heap.size, n + 9, none⟩ = some (num (Ms.wAt (bytesOf b) (n + 9))) := by rw [← hlo (n + 9) (by omega)]; exact hrow.cell (by omega)
          have c14 : wr.cell? ⟨w.heap.size, n + 14, none⟩ = some (num (Ms.wAt (bytesOf b) (n + 14))) := by rw [← hlo (n + 14) (by omega)]; exact hrow.cell (by omega)
          obtain ⟨o16, c16⟩ : ∃ o, wr.cell? ⟨w.heap.size, n + 16, none⟩ = some o := ⟨_, hrow.cell (by omega)⟩
          have hfr := hrow.frozen (n + 16)
          have HN : Hid (Rel2 (bytesOf b) w (.int .i64 ((n + 1 + 16 : Nat) : Int)) ((wr.drew).setCell ⟨w.heap.size, n + 16, none⟩ (num (Ms.wAt (bytesOf b) (n + 16))))) := by
            obtain ⟨f', h1, h2, h3⟩ := K6.row_set (w := wr.drew) hrow hlo (below_drewN hbel 1)
            exact ⟨n + 1, f', by omega, rfl, h1, fun j hj => h2 j (by omega), h3⟩
          have HW : Hid (Ms.wAt (bytesOf b) (n + 16) = Ms.add (Ms.add (Ms.add (Ms.wAt (bytesOf b) n) (Ms.low0 (Ms.wAt (bytesOf b) (n + 1)))) (Ms.wAt (bytesOf b) (n + 9))) (Ms.low1 (Ms.wAt (bytesOf b) (n + 14)))) := Ms.wAt_high _ n
          have b0 := Ms.wAt_lt (bytesOf b) n
          have b1 := Ms.wAt_lt (bytesOf b) (n + 1)
          have b9 := Ms.wAt_lt (bytesOf b) (n + 9)
          have b14 := Ms.wAt_lt (bytesOf b) (n + 14)
          generalize Ms.wAt (bytesOf b) n = x0 at *
          generalize Ms.wAt (bytesOf b) (n + 1) = x1 at *
          generalize Ms.wAt (bytesOf b) (n + 9) = x9 at *
          generalize Ms.wAt (bytesOf b) (n + 14) = x14 at *
          clear hrow hlo hbel
          have q7 : IntKind.i64.wrap ((n : Int) + 16 - 7) = ((n + 9 : Nat) : Int) := K1.back n 7 9 (by omega) rfl
          have q16 : IntKind.i64.wrap ((n : Int) + 16 - 16) = ((n + 0 : Nat) : Int) := K1.back n 16 0 (by omega) rfl
          have i0 : (n : Int) < 64 := by omega
          have i9 : (n : Int) + 9 < 64 := by omega
          have j9 : 0 ≤ (n : Int) + 9 := by omega
          have t9 : ((n : Int) + 9).toNat = n + 9 := by omega
          have i16 : (n : Int) + 16 < 64 := by omega
          have j16 : 0 ≤ (n : Int) + 16 := by omega
          have t16 : ((n : Int) + 16).toNat = n + 16 := by omega
          have l0 := K0.low0_eq x1 b1
          have l1 := K0.low1_eq x14 b14
          generalize Ms.low0 x1 = s0 at *
          generalize Ms.low1 x14 = s1 at *
          have a1 := K0.add_wrap x0 s0
          have a2 := K0.add_wrap (Ms.add x0 s0) x9
          have a3 := K0.add_wrap (Ms.add (Ms.add x0 s0) x9) s1
          go_wp2_with fail
          refine CT.region_tail 32 (by kernel_rfl) (by kernel_rfl) ?_
          simp only [List.take_succ_cons, List.take_zero, List.drop_succ_cons, List.drop_zero]
          repeat (first | go_big_quiet_skip | (go_big_quiet_want; go_big_quiet_op; first | go_big_quiet_on | (apply Exists.intro; refine ⟨?_, ?_⟩; · first | exact K6.turn_still _ _ _ b1 (by decide) (by decide) | exact K6.turn_still _ _ _ b14 (by decide) (by decide)
                                                                                                              go_big_quiet_on)))
          refine wpQuiet_nil ?_
          rw [HW.out] at HN
          clear c0 c1 c9 c14 l0 l1
          go_wp2
          go_roundw
          case rel => exact HN.out
          case measure => simp [intOf]; omega
        · obtain rfl : n = 48 := by omega
          have hok := hs
          have HG : Hid (wr.heap[w.heap.size]? = some (.cells (wCells (bytesOf b)) 72 (0, 0))) := K1.row_is hrow hlo
          have HB : Hid (Below w.heap.size w wr) := hbel
          have HC : Hid (∀ j, j < 8 → wr.cell? ⟨g, j, none⟩ = some (.int .i64 (s.list.getD j 0 : Nat))) := fun j hj => by rw [hbel.cell (p := ⟨g, j, none⟩) hg]; exact hc j hj
          have hz : w.heap.size < wr.heap.size := hrow.lt
          clear hrow hlo hbel hc
          have k0 : wr.cell? ⟨g, 0, none⟩ = some (.int .i64 (s.a : Nat)) := HC.out 0 (by omega)
          have k1 : wr.cell? ⟨g, 1, none⟩ = some (.int .i64 (s.b : Nat)) := HC.out 1 (by omega)
          have k2 : wr.cell? ⟨g, 2, none⟩ = some (.int .i64 (s.c : Nat)) := HC.out 2 (by omega)
          have k3 : wr.cell? ⟨g, 3, none⟩ = some (.int .i64 (s.d : Nat)) := HC.out 3 (by omega)
          have k4 : wr.cell? ⟨g, 4, none⟩ = some (.int .i64 (s.e : Nat)) := HC.out 4 (by omega)
          have k5 : wr.cell? ⟨g, 5, none⟩ = some (.int .i64 (s.f : Nat)) := HC.out 5 (by omega)
          have k6 : wr.cell? ⟨g, 6, none⟩ = some (.int .i64 (s.g : Nat)) := HC.out 6 (by omega)
          have k7 : wr.cell? ⟨g, 7, none⟩ = some (.int .i64 (s.h : Nat)) := HC.out 7 (by omega)
          obtain ⟨oa, ob, oc, od, oe, of, og, oh⟩ := hok
          go_wp2_with fail
          go_quiet (fail)
          go_wp2_with fail
          obtain ⟨w3, hw3⟩ : ∃ x, wr.drewN nq = x := ⟨_, rfl⟩
          rw [hw3]
          have k4' : w3.cell? ⟨g, 4, none⟩ = some (.int .i64 (s.e : Nat)) := by rw [← hw3]; exact k4
          have k5' : w3.cell? ⟨g, 5, none⟩ = some (.int .i64 (s.f : Nat)) := by rw [← hw3]; exact k5
          have k6' : w3.cell? ⟨g, 6, none⟩ = some (.int .i64 (s.g : Nat)) := by rw [← hw3]; exact k6
          have k7' : w3.cell? ⟨g, 7, none⟩ = some (.int .i64 (s.h : Nat)) := by rw [← hw3]; exact k7
          have Hw3 : Hid (wr.drewN nq = w3) := hw3
          clear hw3 k0 k1 k2 k3 k4 k5 k6 k7
          go_quiet (fail)
          clear k4' k5' k6' k7'
          go_wp2_with fail
          refine (K6.keys_spec _).mono ?_
          rintro e w4 ⟨rfl, hw4⟩
          have hz3 : (w3.drewN nq).heap.size = wr.heap.size := by rw [← Hw3.out]; rfl
          have h4a : w4.heap[wr.heap.size]? = some (.cells K6.keyCells 72 (0, 0)) := by rw [hw4, ← hz3]; exact blk_alloc_new _ _
          have h4b : w4.heap[w.heap.size]? = some (.cells (wCells (bytesOf b)) 72 (0, 0)) := by
            rw [hw4, blk_alloc_lt _ _ _ (by rw [hz3]; exact hz), ← Hw3.out]; exact HG.out
          have h4c : Below wr.heap.size wr w4 := by
            rw [hw4, ← Hw3.out]; exact (below_drewN (below_drewN (Below.refl _ _) _) _).alloc (Nat.le_refl _) _
          have h4d : wr.heap.size < w4.heap.size := by rw [hw4, nblk_alloc, hz3]; exact Nat.lt_succ_self _
          rw [hz3]
          have HK : Hid (∀ i, i < 64 → w4.cell? ⟨wr.heap.size, i, none⟩ = some (num (Ms.key i))) := fun i hi => by rw [K2.cell_at h4a, K6.keyCells_at i hi]
          have HG4 : Hid (∀ i, i < 64 → w4.cell? ⟨w.heap.size, i, none⟩ = some (num (Ms.wAt (bytesOf b) i))) := fun i hi => by rw [K2.cell_at h4b, K2.wCells_at _ i hi]
          have HB4 : Hid (Below w.heap.size w w4) := HB.out.trans (h4c.mono (by omega))
          have HC4 : Hid (∀ j, j < 8 → w4.cell? ⟨g, j, none⟩ = some (.int .i64 (s.list.getD j 0 : Nat))) := fun j hj => by rw [h4c.cell (p := ⟨g, j, none⟩) (by show g < wr.heap.size; omega)]; exact HC.out j hj
          have HZ4 : Hid (w.heap.size ≤ w4.heap.size) := by unfold Hid; omega
          clear hw4 Hw3 h4a h4b h4c h4d hz3 HG HB HC
          generalize wr.heap.size = kb at *
          go_wp2_with fail
          go_loopw [10, 11, 12, 13, 14, 15, 16, 17, 19] (fun a b1 c d e f g h i wr => K2.Rel s (bytesOf b) w4 a b1 c d e f g h i wr) (fun _ _ _ _ _ _ _ _ i _ => 64 - (intOf i).toNat)
          case atStart => exact ⟨0, 0, by omega, rfl, rfl, rfl, rfl, rfl, rfl, rfl, rfl, rfl, rfl⟩
          case round =>
            obtain ⟨k, m, hk, rfl, rfl, rfl, rfl, rfl, rfl, rfl, rfl, rfl, hw⟩ := hrel
            have ht := Ms.rnds_ok (bytesOf b) hs k
            by_cases hlt : k < 64
            · have HS : Hid (Ms.rnds s (bytesOf b) (k + 1) = Ms.rnd (Ms.rnds s (bytesOf b) k) (Ms.key k) (Ms.wAt (bytesOf b) k)) := rfl
              have hck : wr.cell? ⟨kb, k, none⟩ = some (num (Ms.key k)) := by rw [hw]; exact HK.out k hlt
              have hcw : wr.cell? ⟨w.heap.size, k, none⟩ = some (num (Ms.wAt (bytesOf b) k)) := by rw [hw]; exact HG4.out k hlt
              have Hw : Hid (wr = w4.drewN m) := hw
              clear hw
              generalize Ms.rnds s (bytesOf b) k = t at *
              generalize Ms.key k = key at *
              generalize Ms.wAt (bytesOf b) k = wat at *
              obtain ⟨ta, tb, tc, td, te, tf, tg, th⟩ := t
              obtain ⟨oa, ob, oc, od, oe, of, og, oh⟩ := ht
              simp only at oa ob oc od oe of og oh
              simp only
              have hki : (k : Int) < 64 := by omega
              go_wp2_with fail
              go_quiet (first | (go_at_call 53; exact K0.turn_quiet_spec _ _ _ _ oe (by decide) (by decide)))
              go_wp2_with (first | (go_at_call 53; refine (K0.turn_any_spec _ _ _ oa (by decide) (by decide)).mono ?_; rintro e w' ⟨rfl, rfl⟩))
              rw [K0.up1_eq te oe, K0.ch_eq te tf tg oe of og, K0.maj_eq ta tb tc oa ob oc, K0.up0_eq ta oa]
              go_roundw
              case rel =>
                refine ⟨k + 1, m + nq, by omega, by go_num, ?_, ?_, ?_, ?_, ?_, ?_, ?_, ?_, by rw [Hw.out, World.drewN_drewN]⟩
                all_goals rw [HS.out]
                all_goals try rfl
                · rw [K0.t1_eq ⟨ta, tb, tc, td, te, tf, tg, th⟩, K0.t2_eq ⟨ta, tb, tc, td, te, tf, tg, th⟩, K0.add_mod]; rfl
                · rw [K0.t1_eq ⟨ta, tb, tc, td, te, tf, tg, th⟩, K0.add_mod]; rfl
              case measure => simp [intOf]; omega
            · obtain rfl : k = 64 := by omega
              have HBK : Hid (Ms.blk s (bytesOf b) = Ms.plus s (Ms.rnds s (bytesOf b) 64)) := rfl
              have HB5 : Hid (Below w.heap.size w wr) := by rw [hw]; exact below_drewN HB4.out m
              have HC5 : Hid (∀ j, j < 8 → wr.cell? ⟨g, j, none⟩ = some (.int .i64 (s.list.getD j 0 : Nat))) := by rw [hw]; exact HC4.out
              have hz5 : w.heap.size ≤ wr.heap.size := by rw [hw]; exact HZ4.out
              clear hw HK HG4 HB4 HC4 HZ4
              generalize Ms.rnds s (bytesOf b) 64 = t at *
              go_wp2_with fail
              obtain ⟨i0, hi, hz0, hz1, hz2⟩ := info_parts K6.info_i64
              obtain ⟨W, hW⟩ : ∃ x, (wr.alloc (.cells #[num t.a, num t.b, num t.c, num t.d, num t.e, num t.f, num t.g, num t.h] 72)).alloc (.cells #[] 2) = x := ⟨_, rfl⟩
              have HV : Hid (W.heap[wr.heap.size]? = some (.cells (K2.stCells t) 72 (0, 0))) := by
                rw [← hW, blk_alloc_lt _ _ _ (by rw [nblk_alloc]; exact Nat.lt_succ_self _), blk_alloc_new]; exact rfl
              have HBW : Hid (Below wr.heap.size wr W) := by rw [← hW]; exact ((Below.refl _ _).alloc (Nat.le_refl _) _).alloc (by rw [nblk_alloc]; omega) _
              have HQ : Hid (K6.Rel4 (Ms.plus s t) (wr.heap.size + 1) W (.slice (some ⟨wr.heap.size + 1, 0, none⟩) 0 0) (.int .i64 0) W) := by
                refine ⟨0, by omega, rfl, ?_, Below.refl _ _, by rw [← hW, nblk_alloc, nblk_alloc]; omega⟩
                rw [← hW]
                have := World.ownsRow_lit (base := wr.heap.size + 1) (size := 1) (wr.alloc (.cells #[num t.a, num t.b, num t.c, num t.d, num t.e, num t.f, num t.g, num t.h] 72)) (#[] : Array Value) 0 (by rw [nblk_alloc]; exact Nat.le_refl _) (by decide) rfl (e := 2)
                rw [nblk_alloc] at this
                exact this
              have HBV : Hid (Below w.heap.size w W) := HB5.out.trans (HBW.out.mono hz5)
              have HCW : Hid (∀ j, j < 8 → W.cell? ⟨g, j, none⟩ = some (.int .i64 (s.list.getD j 0 : Nat))) := fun j hj => by rw [HBW.out.cell (p := ⟨g, j, none⟩) (by show g < wr.heap.size; omega)]; exact HC5.out j hj
              have HVW : Hid (∀ j, j < 8 → W.cell? ⟨wr.heap.size, j, none⟩ = some (num (t.list.getD j 0))) := fun j hj => by rw [K2.cell_at HV.out, K2.stCells_at t j hj]
              rw [hW]
              clear hW HV HB5 HC5 HBW
              have hgV : g < wr.heap.size := by omega
              obtain ⟨V, hVe⟩ : ∃ V, wr.heap.size = V := ⟨_, rfl⟩
              rw [hVe] at HQ HVW hgV hz5
              rw [hVe, show ((64 : Nat) : Int) = (64 : Int) from rfl]
              clear hVe
              go_loopw [23, 24] (fun o i wr => K6.Rel4 (Ms.plus s t) (V + 1) W o i wr) (fun _ i _ => 8 - (intOf i).toNat)
              case atStart => exact HQ.out
              case round =>
                clear HQ
                obtain ⟨k, hk8, rfl, hown, hbel, hbs⟩ := hrel
                by_cases hl8 : k < 8
                · have hcs : wr.cell? ⟨g, k, none⟩ = some (.int .i64 (s.list.getD k 0 : Nat)) := by rw [hbel.cell (p := ⟨g, k, none⟩) (by show g < V + 1; omega)]; exact HCW.out k hl8
                  have hct : wr.cell? ⟨V, k, none⟩ = some (num (t.list.getD k 0)) := by rw [hbel.cell (p := ⟨V, k, none⟩) (by show V < V + 1; omega)]; exact HVW.out k hl8
                  have HT : Hid (K6.i64s ((Ms.plus s t).list.take (k + 1)) = K6.i64s ((Ms.plus s t).list.take k) ++ [Value.int .i64 ((Ms.add (s.list.getD k 0) (t.list.getD k 0) : Nat) : Int)]) := by
                    unfold Hid; rw [K6.take_more _ k hl8, K2.plus_at s t k hl8]
                  have hsk := K6.list_lt hs k hl8
                  have htk := K6.list_lt ht k hl8
                  generalize s.list.getD k 0 = sk at *
                  generalize t.list.getD k 0 = tk at *
                  generalize K6.i64s ((Ms.plus s t).list.take k) = pre at *
                  have hal := Ms.add_lt sk tk
                  have a1 := K0.add_wrap sk tk
                  have a2 : IntKind.i64.wrap ((Ms.add sk tk : Nat) : Int) = ((Ms.add sk tk : Nat) : Int) := by rw [IntKind.wrap_i64]; omega
                  have a3 : IntKind.u32.wrap ((sk : Nat) : Int) = ((sk : Nat) : Int) := by rw [IntKind.wrap_u32']; omega
                  generalize Ms.add sk tk = sum at *
                  have ag : u23.ownBlock ≠ some g := fun e => by have := (hown.lt _ e).1; omega
                  have aV : u23.ownBlock ≠ some V := fun e => by have := (hown.lt _ e).1; omega
                  have lg := World.block_lt_of_cell? wr _ hcs
                  have lv := World.block_lt_of_cell? wr _ hct
                  have hi0' : (0 : Int) ≤ (k : Int) := Int.natCast_nonneg _
                  have hi1 : (k : Int) < 8 := by omega
                  go_wp2_with fail
                  go_region_held3 (fun w' => w'.cell? ⟨g, k, none⟩ = some (.int .i64 (sk : Int)) ∧ w'.cell? ⟨V, k, none⟩ = some (.int .u32 (tk : Int)))
                    (first
                      | go_keep
                      | (go_split_ands
                         refine ⟨?_, ?_⟩
                         · (rw [hgrow.cell_far _ (by simp; omega) (Ne.symm ag)]; assumption)
                         · (rw [hgrow.cell_far _ (by simp; omega) (Ne.symm aV)]; assumption)))
                    ((refine step_append_lies _ (by rfl) _ _ _ (by rfl) (V + 1) 2 i0 _ 1 8 Tryd.underlying37 hi hz0 hz1 hz2 rfl (by omega) u23 k pre (by rfl) ((hown.alloc _).drew)
                        ⟨wr.heap.size, 0, none⟩ 1 1 [.int .i64 (sum : Int)] (by rfl) (by rfl) (World.news_of_block (cs := #[.int .i64 (sum : Int)]) (t := 2) (fr := (0, 0)) (heap_alloc_new wr _)) (by simp [Value.oneCell'])
                        (by omega) (by unfold maxLen; omega) (by omega) (by simp; omega) (wr.heap.size + 1) (by simp) ?_; intro gg cap1 w1 hown1 hgrow hat hlt))
                  have HW : Hid (Below (V + 1) W w1) := ((hbel.alloc hbs _).drew).grown hgrow (by show V + 1 ≤ (wr.alloc _).heap.size; rw [nblk_alloc]; omega) (fun k hk => (hown.lt k hk).1)
                  have HZ : Hid (V + 1 ≤ w1.heap.size) := by
                    have h1 : (wr.alloc (.cells #[.int .i64 (sum : Int)] 2)).heap.size ≤ w1.heap.size := hgrow.size
                    rw [nblk_alloc] at h1
                    unfold Hid; omega
                  have HO : Hid (w1.ownsRow (V + 1) 2 1 (.slice (some ⟨gg, 0, none⟩) (k + 1) cap1) (k + 1) (pre ++ [Value.int .i64 (sum : Int)])) := hown1
                  clear hown1 hgrow hat hlt hown hbel hcs hct ag aV a1 a2 a3
                  go_wp2
                  go_roundw
                  case rel => exact ⟨k + 1, by omega, by go_num, by rw [HT.out]; exact HO.out, HW.out, HZ.out⟩
                  case measure => simp [intOf]; omega
                · obtain rfl : k = 8 := by omega
                  have HO : Hid (wr.ownsRow w.heap.size 2 1 u23 8 (K6.i64s (Ms.blk s (bytesOf b)).list)) := by
                    rw [HBK.out]
                    exact own_base hown (by omega)
                  have HF : Hid (Below w.heap.size w wr) := HBV.out.trans (hbel.mono (by omega))
                  clear hown hbel
                  go_wp2
                  go_ret
                  exact ⟨_, rfl, HO.out, HF.out⟩
end Go.Proofs.YtkpjdmmgdmbmnabDoor.K7
