/-
  The draws of stage 4.
-/
import Derived.Test.YtfiabbfdnmldjaaGreatDoorF2
import Derived.Test.YtfiabbfdnmldjaaGreatDoorPQ
namespace Go.Proofs.YtfiabbfdnmldjaaGreatDoor.F3
open Go.RowKit
open Go.Proofs.YtfiabbfdnmldjaaGreatDoor.C0 Go.Proofs.YtfiabbfdnmldjaaGreatDoor.D0 Go.Proofs.YtfiabbfdnmldjaaGreatDoor.D6 Go.Proofs.YtfiabbfdnmldjaaGreatDoor.D7 Go.Proofs.YtfiabbfdnmldjaaGreatDoor.D8 Go.Proofs.YtfiabbfdnmldjaaGreatDoor.D9 Go.Proofs.YtfiabbfdnmldjaaGreatDoor.E0 Go.Proofs.YtfiabbfdnmldjaaGreatDoor.E1 Go.Proofs.YtfiabbfdnmldjaaGreatDoor.E2 Go.Proofs.YtfiabbfdnmldjaaGreatDoor.S0 Go.Proofs.YtfiabbfdnmldjaaGreatDoor.S1 Go.Proofs.YtfiabbfdnmldjaaGreatDoor.S2 Go.Proofs.YtfiabbfdnmldjaaGreatDoor.S4 Go.Proofs.YtfiabbfdnmldjaaGreatDoor.O1 Go.Proofs.YtfiabbfdnmldjaaGreatDoor.T2 Go.Proofs.YtfiabbfdnmldjaaGreatDoor.T3 Go.Proofs.YtfiabbfdnmldjaaGreatDoor.T4 Go.Proofs.YtfiabbfdnmldjaaGreatDoor.T5 Go.Proofs.YtfiabbfdnmldjaaGreatDoor.U0 Go.Proofs.YtfiabbfdnmldjaaGreatDoor.F2
def DrewDisk (w : World) (e : Ending) (w' : World) : Prop :=
  ∃ (ss : List ByteArray) (ps : List Pend) (a : Option Addr) (c : Nat) (a' : Option Addr) (c' : Nat), e = .returned (.agg #[.slice a ss.length c, .slice a' ps.length c']) ∧ Got w ss ps a c a' c' w'
theorem got_fill {w w1 w2 : World} {c c' : Nat} {ss : List ByteArray} {ps : List Pend} {a a' : Option Addr} (hb1 : Below (w.heap.size + 1) (w.alloc (.cells #[.slice none 0 0, .slice none 0 0] 26)) w1) (hp : w.heap.size + 1 < w1.heap.size)
    (ho : ODisk w1.heap.size w2 (.slice a ss.length c) (.slice a' ps.length c') ss ps) (l1 : ss.length ≤ 64) (l2 : ps.length ≤ 201) (z1 : ∀ s ∈ ss, s.size ≤ maxLen) (z2 : ∀ q ∈ ps, q.2.size ≤ maxLen) (ht : Wrote (only (w.heap.size + 1)) w1 w2) (x y : Value) :
    Got w ss ps a c a' c' ((w2.setCell ⟨w.heap.size, 0, none⟩ x).setCell ⟨w.heap.size, 1, none⟩ y) := by
  have t2 := D7.set2_wrote w2 w.heap.size x y
  have hb0 : Below w.heap.size w w1 := (albel w _).trans (hb1.mono (by omega))
  have hb2 := wrote_bel hb0 ht (Nat.le_refl _) (fun g e => by unfold only at e; omega)
  exact ⟨(keep_blocks ho fun g hg => t2.block g (ho.rows g hg).2 (fun e => by have := (ho.rows g hg).1; omega)).mono (by omega), l1, l2, z1, z2, wrote_bel hb2 t2 (Nat.le_refl _) (fun g e => by omega)⟩
theorem got_res {w w1 w2 : World} (hb1 : Below (w.heap.size + 1) (w.alloc (.cells #[.slice none 0 0, .slice none 0 0] 26)) w1) (ht : Wrote (only (w.heap.size + 1)) w1 w2) : w2.heap[w.heap.size]? = some (.cells #[.slice none 0 0, .slice none 0 0] 26) :=
  carryP ((hb1.block w.heap.size (by omega)).trans (heap_alloc_new _ _)) ht (by omega)
set_option maxRecDepth 100000 in
set_option maxHeartbeats 800000 in
theorem read4_draw (v : Value) (n : Nat) (w : World) (hc : IsCode w.heap.size w v n) :
    Calls Tryz.prog 8 #[v] w fun e w' => DrewDisk w e w' := by
  go_enter Tryz.func8, Tryz.ntmps8
  go_wp2_with fail
  refine (srcA v n w _ hc).mono ?_
  rintro e w1 ⟨rfl, d1, b1⟩
  go_wp2_with fail
  refine (l04Disk_any _ _ n v w1 d1).mono ?_
  rintro e w2 ⟨ss, ps, a, c, a', c', rfl, o2, l1, l2, z1, z2, d2, t2⟩
  obtain ⟨r0, r1, rf, r9⟩ := blk2 (got_res b1 t2)
  have HF : Hid (DrewDisk w (.returned (.agg #[.slice a ss.length c, .slice a' ps.length c'])) ((w2.setCell ⟨w.heap.size, 0, none⟩ (.slice a ss.length c)).setCell ⟨w.heap.size, 1, none⟩ (.slice a' ps.length c'))) := ⟨ss, ps, a, c, a', c', rfl, got_fill b1 d1.lt o2 l1 l2 z1 z2 t2 _ _⟩
  clear d1 b1 o2 z1 z2 d2 t2
  go_wp2
  exact bodyPost_ret (v := .agg #[.slice a ss.length c, .slice a' ps.length c']) (by simp [results, Tryz.results8, go_sem, r0, r1]) rfl HF.out
set_option maxRecDepth 100000 in
set_option maxHeartbeats 800000 in
theorem form4_draw (v : Value) (n : Nat) (w : World) (hc : IsCode w.heap.size w v n) :
    Calls Tryz.prog 7 #[v] w fun e w' => DrewDisk w e w' := by
  go_enter Tryz.func7, Tryz.ntmps7
  go_wp2_with fail
  refine (srcA v n w _ hc).mono ?_
  rintro e w1 ⟨rfl, d1, b1⟩
  go_wp2_with fail
  refine (drawOne 2 d1 (by omega) (by omega)).mono ?_
  rintro e w2 ⟨bo, rfl, d2, t2⟩
  have hz := t2.size
  have hp := d1.lt
  cases bo
  · go_wp2_with fail
    refine (l04Disk_any _ _ n v w2 d2).mono ?_
    rintro e w3 ⟨ss, ps, a, c, a', c', rfl, o3, l1, l2, z1, z2, d3, t3⟩
    have t4 := t2.trans t3
    obtain ⟨r0, r1, rf, r9⟩ := blk2 (got_res b1 t4)
    have HF : Hid (DrewDisk w (.returned (.agg #[.slice a ss.length c, .slice a' ps.length c'])) ((w3.setCell ⟨w.heap.size, 0, none⟩ (.slice a ss.length c)).setCell ⟨w.heap.size, 1, none⟩ (.slice a' ps.length c'))) := ⟨ss, ps, a, c, a', c', rfl, got_fill b1 hp (o3.mono hz) l1 l2 z1 z2 t4 _ _⟩
    clear d1 b1 o3 z1 z2 d2 t2 d3 t3 t4
    go_wp2
    exact bodyPost_ret (v := .agg #[.slice a ss.length c, .slice a' ps.length c']) (by simp [results, Tryz.results7, go_sem, r0, r1]) rfl HF.out
  · go_wp2_with fail
    refine (l03Disk_any _ _ n v w2 d2).mono ?_
    rintro e w3 ⟨ss, ps, a, c, a', c', rfl, o3, l1, l2, z1, z2, d3, t3⟩
    have t4 := t2.trans t3
    obtain ⟨r0, r1, rf, r9⟩ := blk2 (got_res b1 t4)
    have HF : Hid (DrewDisk w (.returned (.agg #[.slice a ss.length c, .slice a' ps.length c'])) ((w3.setCell ⟨w.heap.size, 0, none⟩ (.slice a ss.length c)).setCell ⟨w.heap.size, 1, none⟩ (.slice a' ps.length c'))) := ⟨ss, ps, a, c, a', c', rfl, got_fill b1 hp (o3.mono hz) l1 l2 z1 z2 t4 _ _⟩
    clear d1 b1 o3 z1 z2 d2 t2 d3 t3 t4
    go_wp2
    exact bodyPost_ret (v := .agg #[.slice a ss.length c, .slice a' ps.length c']) (by simp [results, Tryz.results7, go_sem, r0, r1]) rfl HF.out
def DrewPut (w : World) (e : Ending) (w' : World) : Prop :=
  ∃ (ss : List ByteArray) (ps : List Pend) (a : Option Addr) (c : Nat) (a' : Option Addr) (c' : Nat) (t : ByteArray) (z : Int), e = .returned (.tuple #[.agg #[.slice a ss.length c, .slice a' ps.length c'], .string t, .int .i64 z]) ∧ t.size ≤ 2000 ∧ -1 ≤ z ∧ z ≤ 6 ∧ Got w ss ps a c a' c' w'
theorem room_le (ss : List ByteArray) (ps : List Pend) (h : ss.length ≤ 64) : roomN ss ps ≤ 1984 := by
  unfold roomN
  split
  · have := half_le _ h; omega
  · omega
/-- A text is there. -/
def RT (w : World) (p n : Nat) (v : Value) (L : Nat) (ss : List ByteArray) (ps : List Pend) (a : Option Addr) (c : Nat) (a' : Option Addr) (c' : Nat) (s : Value) (wx : World) : Prop := ∃ t : ByteArray, s = .string t ∧ t.size ≤ 2000 ∧ GS w p n v L ss ps a c a' c' wx
set_option maxRecDepth 100000 in
set_option maxHeartbeats 1600000 in
theorem put4_draw (v : Value) (n : Nat) (w : World) (hc : IsCode w.heap.size w v n) :
    Calls Tryz.prog 6 #[v] w fun e w' => DrewPut w e w' := by
  go_enter Tryz.func6, Tryz.ntmps6
  go_wp2_with fail
  refine (srcA v n w _ hc).mono ?_
  rintro e w1 ⟨rfl, d1, b1⟩
  go_wp2_with fail
  refine (l04Disk_any _ _ n v w1 d1).mono ?_
  rintro e w2 ⟨ss, ps, a, c, a', c', rfl, o2, l1, l2, z1, z2, d2, t2⟩
  have G := GS.start b1 d1.lt o2 l1 l2 z1 z2 d2 t2
  clear b1 d1 o2 l1 l2 z1 z2 d2 t2
  obtain ⟨W, hW⟩ : ∃ W, w2.alloc (.cells #[.slice a ss.length c, .slice a' ps.length c'] 26) = W := ⟨_, rfl⟩
  rw [hW] at G
  go_wp2_with fail
  clear hW
  generalize w2.heap.size = L at *
  refine (gN 90 G (by omega) (by omega)).mono ?_
  rintro e w3 ⟨r, rfl, hr, G3⟩
  clear G
  go_wp2_with fail
  refine (gBytes r G3 (by omega)).mono ?_
  rintro e w4 ⟨t, rfl, ht, G4⟩
  have htz : t.size ≤ 2000 := by omega
  clear G3 ht
  go_wp2_with fail
  refine (gOne 8 G4 (by omega) (by omega)).mono ?_
  rintro e w5 ⟨bo, rfl, G5⟩
  clear G4
  go_upto_if 17 with fail
  go_cut [7] (fun s7 wx => RT w (w.heap.size + 1) n v L ss ps a c a' c' s7 wx)
  case first =>
    cases bo
    · go_wp2_with fail
      go_meet
      case rel => exact ⟨t, rfl, htz, G5⟩
    · obtain ⟨q0, q1, qf, q9⟩ := blk2 G5.loc
      have hrl := room_le ss ps G5.got.l1
      go_wp2_with fail
      refine (room_spec _ _ ss ps _ G5.got.own.1.strs G5.got.own.2.pends G5.got.z1 G5.got.z2).mono ?_
      rintro e w6 ⟨rfl, hb6⟩
      have G6 := G5.below hb6
      clear G5 q0 q1 qf q9 hb6
      generalize roomN ss ps = R at *
      go_wp2_with fail
      refine (gN 2 G6 (by omega) (by omega)).mono ?_
      rintro e w7 ⟨r2, rfl, hr2, G7⟩
      have hmk := run_make_row' (P := Tryz.prog) 22 5 (.int .u8 0) 1 Tryz.underlying22 info_u8 rfl .i64 .i64 (R + r2) (by omega) (by omega)
      rw [show ((R + r2 : Nat) : Int) = (R : Int) + (r2 : Int) by omega] at hmk
      have hconv := conv_own (D4.made_row w7.heap.size w7 (R + r2) (Nat.le_refl _) (by omega))
      have HN : Hid (RT w (w.heap.size + 1) n v L ss ps a c a' c' (.string ⟨(List.replicate (R + r2) 0).toArray⟩) (w7.alloc (.cells (madeCells #[.int .u8 0] (R + r2)) 5))) := ⟨_, rfl, by rw [C6.size_mk, List.length_replicate]; omega, G7.below (albel _ _)⟩
      clear G6 G7
      go_wp2
      go_meet
      case rel => exact HN.out
  case rest =>
    clear htz
    obtain ⟨t, rfl, htz, G⟩ := hcut
    clear G5
    obtain ⟨q0, q1, qf, q9⟩ := blk2 G.loc
    go_wp2_with fail
    go_region_held3 (fun w' => w'.cell? ⟨L, 0, none⟩ = some (.slice a ss.length c) ∧ w'.cell? ⟨L, 1, none⟩ = some (.slice a' ps.length c'))
      (first
        | with_reducible exact keepG G
        | with_reducible exact keepG G.drew
        | with_reducible exact keepR G _ _)
      (first
        | (go_at_call 31
           refine (gN (w := w) (p := w.heap.size + 1) (n := n) (v := v) (L := L) (ss := ss) (ps := ps) (a := a) (c := c) (a' := a') (c' := c') 8 ?hE (by omega) (by omega)).mono ?_
           case hE => first | with_reducible exact G | with_reducible exact G.drew
           rintro e w6 ⟨z, rfl, hz, G⟩
           have hwz : IntKind.i64.wrap ((z : Int) - 1) = (z : Int) - 1 := by rw [IntKind.wrap_i64]; omega
           obtain ⟨r0, r1, rf, r9⟩ := blk2 G.res))
    have HF : Hid (DrewPut w (.returned (.tuple #[.agg #[.slice a ss.length c, .slice a' ps.length c'], .string t, .int .i64 ((z : Int) - 1)])) ((w6.setCell ⟨w.heap.size, 0, none⟩ (.slice a ss.length c)).setCell ⟨w.heap.size, 1, none⟩ (.slice a' ps.length c'))) := ⟨ss, ps, a, c, a', c', t, (z : Int) - 1, rfl, htz, by omega, by omega, G.fill _ _⟩
    go_wp2_with fail
    exact bodyPost_ret (v := .tuple #[.agg #[.slice a ss.length c, .slice a' ps.length c'], .string t, .int .i64 ((z : Int) - 1)]) (by simp [results, Tryz.results6, go_sem, r0, r1]) rfl HF.out
end Go.Proofs.YtfiabbfdnmldjaaGreatDoor.F3
