/-
  The program's put, given its steps.
-/
import Derived.Test.YtfiabbfdnmldjaaGreatDoorX0
import Derived.Test.YtfiabbfdnmldjaaGreatDoorW2
import Derived.Test.YtfiabbfdnmldjaaGreatDoorV6
import Derived.Test.YtfiabbfdnmldjaaGreatDoorU6
namespace Go.Proofs.YtfiabbfdnmldjaaGreatDoor.X1
open Go.RowKit Go.IntWalk
open Go.Proofs.YtfiabbfdnmldjaaGreatDoor.C0 Go.Proofs.YtfiabbfdnmldjaaGreatDoor.S0 Go.Proofs.YtfiabbfdnmldjaaGreatDoor.S1 Go.Proofs.YtfiabbfdnmldjaaGreatDoor.S2 Go.Proofs.YtfiabbfdnmldjaaGreatDoor.S3 Go.Proofs.YtfiabbfdnmldjaaGreatDoor.O1 Go.Proofs.YtfiabbfdnmldjaaGreatDoor.T5 Go.Proofs.YtfiabbfdnmldjaaGreatDoor.U0 Go.Proofs.YtfiabbfdnmldjaaGreatDoor.U1 Go.Proofs.YtfiabbfdnmldjaaGreatDoor.U2 Go.Proofs.YtfiabbfdnmldjaaGreatDoor.U3 Go.Proofs.YtfiabbfdnmldjaaGreatDoor.U4 Go.Proofs.YtfiabbfdnmldjaaGreatDoor.U5 Go.Proofs.YtfiabbfdnmldjaaGreatDoor.U6 Go.Proofs.YtfiabbfdnmldjaaGreatDoor.U8 Go.Proofs.YtfiabbfdnmldjaaGreatDoor.V0 Go.Proofs.YtfiabbfdnmldjaaGreatDoor.V3 Go.Proofs.YtfiabbfdnmldjaaGreatDoor.V4 Go.Proofs.YtfiabbfdnmldjaaGreatDoor.W0 Go.Proofs.YtfiabbfdnmldjaaGreatDoor.W2 Go.Proofs.YtfiabbfdnmldjaaGreatDoor.X0
open Go.Proofs.YtfiabbfdnmldjaaGreatDoor.Dk (Out ill rightB right_iff St runS)
/-- What is told of a put by its steps. -/
def downO (ss : List ByteArray) (ps : List Pend) (t : ByteArray) (n : Int) : Out :=
  if codeD ss ps = 0 then (if halfN ss.length * 64 < t.size ∨ 1000000 ≤ (seenD ss ps).1 then ill 9 else putO ss ps t n) else ill (codeD ss ps)
theorem putA_eq (ss : List ByteArray) (ps : List Pend) (t : ByteArray) (n : Int) : putA ss ps t n = if 8000 < t.size then illA 2 else ⟨(downO ss ps t n).ss, (downO ss ps t n).ps, ⟨#[]⟩, 0, (downO ss ps t n).k⟩ := by
  unfold putA downO
  split
  · rfl
  · split
    · split
      · rfl
      · rfl
    · rfl
theorem OSt.steps {B k c : Nat} {a : Option Addr} {w : World} {l : List St} (h : OSt B w (.slice a l.length c) l) (hk : k ≤ l.length) (hl : l.length ≤ 1000) : U3.Steps w (.slice a k c) (l.take k) := by
  obtain ⟨fs, h1, h2, h3⟩ := h
  have hkl : (l.take k).length = k := by rw [List.length_take]; omega
  refine ⟨a, c, by rw [hkl], by omega, fun h0 => ?_⟩
  rcases h2.2 with ⟨e, e0⟩ | ⟨g, cap, cur, e, hb, hg, -⟩
  · omega
  · obtain ⟨rfl, rfl⟩ : a = some ⟨g, 0, none⟩ ∧ c = cap := by simpa using e
    refine ⟨g, 0, rfl, lt_some hg, fun i s hs => ?_⟩
    have hik : i < k := by
      rcases Nat.lt_or_ge i k with q | q
      · exact q
      · rw [List.getElem?_eq_none (by omega)] at hs; cases hs
    rw [List.getElem?_take_of_lt hik] at hs
    obtain ⟨f, h4, h5⟩ := h3 i s hs
    have := World.ownsRow.cells h2 rfl i f h4
    rw [add0] at this
    exact ⟨f, this, h5⟩
theorem OSt.cap {B n c : Nat} {a : Option Addr} {w : World} {l : List St} (h : OSt B w (.slice a n c) l) (hn : l.length = n) : n ≤ c := by
  obtain ⟨fs, h1, h2, h3⟩ := h
  subst hn
  rcases h2.2 with ⟨e, e0⟩ | ⟨g, cap, cur, e, hb, hg, hnc, -⟩
  · omega
  · obtain ⟨-, rfl⟩ : a = some ⟨g, 0, none⟩ ∧ c = cap := by simpa using e
    exact hnc
theorem ok_steps {f : Nat} {t h : ByteArray} (hh : h.size ≤ 64) : ∀ s ∈ putL f t h, okSt s := by
  intro s hs
  unfold putL wrL at hs
  rcases List.mem_append.1 hs with q | q
  · obtain ⟨i, -, rfl⟩ := List.mem_map.1 q
    show (chunk t i).size ≤ maxLen
    rw [chunk_size]
    unfold maxLen
    omega
  · simp at q
    rcases q with rfl | rfl | rfl
    · trivial
    · show h.size ≤ maxLen
      unfold maxLen
      omega
    · trivial
set_option maxRecDepth 100000 in
set_option maxHeartbeats 3200000 in
theorem down_any (a1 a3 a5 a9 : Addr) (vs vp : Value) (ss : List ByteArray) (ps : List Pend) (t : ByteArray) (n : Int) (w : World) (hS : Sents w a1 a3 a5 a9) (hs : Strs w vs ss) (hp : Pends w vp ps) (hz : ∀ s ∈ ss, s.size ≤ maxLen) (hzp : ∀ p ∈ ps, p.2.size ≤ maxLen) (ht : t.size ≤ 8000) (hn1 : -9223372036854775808 ≤ n) (hn2 : n ≤ 9223372036854775807) :
    Calls Tryz.prog 37 #[.agg #[vs, vp], .string t, .int .i64 n] w fun e w' => FTold a1 a3 a5 a9 w (downO ss ps t n) e w' := by
  obtain ⟨sa, sc, rfl⟩ : ∃ a c, vs = .slice a ss.length c := hs.len
  obtain ⟨k0, k1, b0, z0⟩ := T5.k_box w (.cells #[.slice sa ss.length sc, vp] 26) (.cells #[.slice none 0 0, .slice none 0 0] 26)
  have hra := fun W h h1 h2 => V6.readArea_impl a1 a3 a5 a9 (.slice sa ss.length sc) vp ss ps W h h1 h2 hz hzp
  by_cases hk : codeD ss ps = 0
  case neg =>
    have hO : downO ss ps t n = ill (codeD ss ps) := by unfold downO; rw [if_neg hk]
    rw [hO]
    clear hO
    generalize codeD ss ps = K at *
    generalize textD ss ps = TX at hra
    generalize (seenD ss ps).2.2.1 = Z at hra
    generalize (seenD ss ps).2.1 = SD at hra
    generalize (seenD ss ps).1 = G at hra
    go_enter Tryz.func37, Tryz.ntmps37
    go_wp2_with fail
    refine (hra _ (hS.below b0) (hs.below b0) (hp.below b0)).mono ?_
    rintro e w1 ⟨g', s', z', t', err, rfl, herr, -, hb1⟩
    obtain ⟨T, u, rfl⟩ := err_some herr hk
    have B1 := bel2 b0 hb1
    have k11 := carryA (carry k1 hb1) (.cells #[.int .i64 g', .int .i64 s', .int .i64 z'] 57)
    obtain ⟨r0, r1, rf, -⟩ := blk2 k11
    have HF : Hid (∀ u u', FTold a1 a3 a5 a9 w (ill K) (.returned (.tuple #[.agg #[.slice none 0 0, .slice none 0 0], .iface T _])) (((w1.alloc (.cells #[.int .i64 g', .int .i64 s', .int .i64 z'] 57)).setCell ⟨w.heap.size + 1, 0, none⟩ u).setCell ⟨w.heap.size + 1, 1, none⟩ u')) := fin_why rfl herr (bel2 B1 (albel _ _)) (by omega)
    clear k0 k1 b0 hb1 hra
    go_wp2
    exact bodyPost_ret (v := .tuple #[.agg #[.slice none 0 0, .slice none 0 0], .iface T u]) (by simp [results, Tryz.results37, go_sem, r0, r1]) rfl (HF.out _ _)
  have hR := code_right hk
  obtain ⟨m1, m2, m3, -, -⟩ := (right_iff ss ps).1 hR
  have hh31 := half_le _ m2
  obtain ⟨og, g0, ⟨sd0, sd1⟩, -, -⟩ := seenD_ok hk
  have hroom : ∀ W, Strs W (.slice sa ss.length sc) ss → Pends W vp ps → Calls Tryz.prog 16 #[.agg #[.slice sa ss.length sc, vp]] W fun e w' => e = .returned (.int .i64 (halfN ss.length * 64 : Nat)) ∧ Below W.heap.size W w' := fun W h1 h2 => by
    have := room_impl (.slice sa ss.length sc) vp ss ps W h1 h2 hz hzp
    rwa [room_yes hR] at this
  obtain ⟨s, hsd⟩ : ∃ s : Nat, (seenD ss ps).2.1 = s := ⟨(seenD ss ps).2.1.toNat, by omega⟩
  have hnew : newS ss ps = 1 - s := by unfold newS; rw [hsd]; simp
  have hs1 : s ≤ 1 := by omega
  have HO : Hid (downO ss ps t n = if halfN ss.length * 64 < t.size ∨ 1000000 ≤ (seenD ss ps).1 then ill 9 else runS ss ps ((putL (firstN ss.length (1 - s)) t (headB ((seenD ss ps).1 + 1) ((1 - s : Nat) : Int) (t.size : Nat))).take n.toNat)) := by
    unfold Hid downO putO stepsD
    rw [if_pos hk, hnew]
  rw [hk, hsd] at hra
  generalize downO ss ps t n = o at *
  generalize textD ss ps = TX at hra
  generalize (seenD ss ps).2.2.1 = Z at hra
  generalize (seenD ss ps).1 = G at *
  clear hk hnew hsd sd0 sd1
  go_enter Tryz.func37, Tryz.ntmps37
  go_wp2_with fail
  refine (hra _ (hS.below b0) (hs.below b0) (hp.below b0)).mono ?_
  rintro e w1 ⟨g', s', z', t', err, rfl, herr, heq, hb1⟩
  obtain rfl := err_nil herr
  obtain ⟨rfl, rfl, rfl, -⟩ := heq rfl
  have B1 := bel2 b0 hb1
  have k01 := carryA (carry k0 hb1) (.cells #[.int .i64 g', .int .i64 (s : Nat), .int .i64 z'] 57)
  have k11 := carryA (carry k1 hb1) (.cells #[.int .i64 g', .int .i64 (s : Nat), .int .i64 z'] 57)
  have kH := heap_alloc_new w1 (.cells #[.int .i64 g', .int .i64 (s : Nat), .int .i64 z'] 57)
  have B2 := bel2 B1 (albel w1 (.cells #[.int .i64 g', .int .i64 (s : Nat), .int .i64 z'] 57))
  clear k0 k1 b0 hb1 hra heq B1 herr
  obtain ⟨q0, q1, -, -⟩ := blk2 k01
  obtain ⟨y0, y1, y2, -, -⟩ := blk3 kH
  go_wp2_with fail
  refine (hroom _ (hs.below B2) (hp.below B2)).mono ?_
  rintro e w3 ⟨rfl, hb3⟩
  have B3 := bel2 B2 hb3
  have k03 := carry k01 hb3
  have k13 := carry k11 hb3
  have kH3 := carry kH hb3
  clear q0 q1 y0 y1 y2 k01 k11 kH B2 hb3 hroom
  obtain ⟨q0, q1, -, -⟩ := blk2 k03
  obtain ⟨y0, y1, y2, -, -⟩ := blk3 kH3
  by_cases hf1 : halfN ss.length * 64 < t.size
  case pos =>
    have hf1' : ((halfN ss.length * 64 : Nat) : Int) < (t.size : Int) := by omega
    have HK : Hid (o = ill 9) := by unfold Hid; rw [HO.out, if_pos (.inl hf1)]
    have c9 := (hS.below B3).c9
    have c9' : ∀ u, (w3.setCell ⟨w.heap.size + 1, 0, none⟩ u).cell? ⟨3, 0, none⟩ = some (sent a9) := fun u => by rw [World.cell?_of_block (w := w3) (Below.heap_setCell _ _ _ _ (by have := lt_cell hS.c9; show 3 ≠ w.heap.size + 1; omega))]; exact c9
    obtain ⟨x0, x1, xf, x9⟩ := blk2 k13
    have HF : Hid (∀ u u', FTold a1 a3 a5 a9 w o (.returned (.tuple #[.agg #[.slice none 0 0, .slice none 0 0], sent a9])) ((w3.drew.setCell ⟨w.heap.size + 1, 0, none⟩ u).setCell ⟨w.heap.size + 1, 1, none⟩ u')) := fin_why HK.out .room B3.drew (by omega)
    clear HO
    go_wp2
    go_region
    all_goals
      go_wp2
      exact bodyPost_ret (v := .tuple #[.agg #[.slice none 0 0, .slice none 0 0], sent a9]) (by simp [results, Tryz.results37, go_sem, x0, x1]) rfl (HF.out _ _)
  have hf1' : ¬ ((halfN ss.length * 64 : Nat) : Int) < (t.size : Int) := by omega
  by_cases hf2 : 1000000 ≤ g'
  case pos =>
    have hf2' : (1000000 : Int) ≤ g' := hf2
    have HK : Hid (o = ill 9) := by unfold Hid; rw [HO.out, if_pos (.inr hf2)]
    have c9 := (hS.below B3).c9
    have c9' : ∀ u, (w3.setCell ⟨w.heap.size + 1, 0, none⟩ u).cell? ⟨3, 0, none⟩ = some (sent a9) := fun u => by rw [World.cell?_of_block (w := w3) (Below.heap_setCell _ _ _ _ (by have := lt_cell hS.c9; show 3 ≠ w.heap.size + 1; omega))]; exact c9
    obtain ⟨x0, x1, xf, x9⟩ := blk2 k13
    have HF : Hid (∀ u u', FTold a1 a3 a5 a9 w o (.returned (.tuple #[.agg #[.slice none 0 0, .slice none 0 0], sent a9])) ((w3.drew.setCell ⟨w.heap.size + 1, 0, none⟩ u).setCell ⟨w.heap.size + 1, 1, none⟩ u')) := fin_why HK.out .room B3.drew (by omega)
    clear HO
    go_wp2
    go_region
    all_goals
      go_wp2
      exact bodyPost_ret (v := .tuple #[.agg #[.slice none 0 0, .slice none 0 0], sent a9]) (by simp [results, Tryz.results37, go_sem, x0, x1]) rfl (HF.out _ _)
  have HOK : Hid (o = runS ss ps ((putL (firstN ss.length (1 - s)) t (headB (g' + 1) ((1 - s : Nat) : Int) (t.size : Nat))).take n.toNat)) := by unfold Hid; rw [HO.out, if_neg (by omega)]
  have hput : ∀ W, Calls Tryz.prog 77 #[.agg #[.slice sa ss.length sc, vp], .agg #[.int .i64 (g' + 1), .int .i64 (1 - (s : Int)), .int .i64 (t.size : Nat)], .string t] W fun e w' => (∃ g5 c', e = .returned (.slice (some ⟨g5, 0, none⟩) (secN t + 3) c') ∧ OSt W.heap.size w' (.slice (some ⟨g5, 0, none⟩) (secN t + 3) c') (putL (firstN ss.length (1 - s)) t (headB (g' + 1) ((1 - s : Nat) : Int) (t.size : Nat)))) ∧ Below W.heap.size W w' := fun W => by
    have := putSteps_any (g' + 1) (1 - s) t sa ss.length sc vp W m1 m2 (by omega) ⟨by omega, by omega⟩ ht
    rw [show (1 - (s : Int)) = ((1 - s : Nat) : Int) by omega]
    exact this
  have hlen := putL_length (firstN ss.length (1 - s)) t (headB (g' + 1) ((1 - s : Nat) : Int) (t.size : Nat))
  have hhs := head_size (g' + 1) ((1 - s : Nat) : Int) (t.size : Nat)
  have hokk := ok_steps (f := firstN ss.length (1 - s)) (t := t) (h := headB (g' + 1) ((1 - s : Nat) : Int) (t.size : Nat)) (by omega)
  have hsec : secN t + 3 ≤ 128 := by unfold secN; omega
  obtain ⟨L, hLL⟩ : ∃ L, secN t + 3 = L := ⟨_, rfl⟩
  have hLp : 0 < L := by omega
  rw [hLL] at hput hlen hsec
  clear hLL
  go_wp2_with fail
  refine (hput _).mono ?_
  rintro e w4 ⟨⟨gg, cc, rfl, ho4⟩, hb4⟩
  have B4 := bel2 B3 hb4
  have k04 := carry k03 hb4
  have k14 := carry k13 hb4
  have hcap := OSt.cap ho4 hlen
  have hcap1 : (L : Int) ≤ (cc : Int) := by omega
  have hL0 : (0 : Int) ≤ (L : Int) := by omega
  have hcap0 : (0 : Int) ≤ (cc : Int) := by omega
  clear q0 q1 y0 y1 y2 k03 k13 kH3 B3 hput hf1' hf1 hf2
  obtain ⟨q0, q1, -, -⟩ := blk2 k04
  by_cases hn0 : n ≤ 0
  case pos =>
    have hnl : n ≤ (L : Int) := by omega
    have hn0' : ¬ 0 < n := by omega
    have hnl3 : ¬ (L : Int) < n := by omega
    have htk : n.toNat = 0 := by omega
    have hst : U3.Steps w4 (.slice (some ⟨gg, 0, none⟩) (0) cc) ((putL (firstN ss.length (1 - s)) t (headB (g' + 1) ((1 - s : Nat) : Int) (t.size : Nat))).take (0)) := OSt.steps (by rw [hlen]; exact ho4) (by rw [hlen]; omega) (by rw [hlen]; omega)
    have haft : ∀ W, Below w4.heap.size w4 W → Calls Tryz.prog 78 #[.agg #[.slice sa ss.length sc, vp], .slice (some ⟨gg, 0, none⟩) (0) cc] W fun e w' => FTold a1 a3 a5 a9 W o e w' := fun W hW => by
      rw [HOK.out, htk]
      exact after_any a1 a3 a5 a9 _ _ _ ss ps _ W (hs.below (bel2 B4 hW)) (hp.below (bel2 B4 hW)) hR (hst.below hW) (fun s hs => hokk s (List.mem_of_mem_take hs))
    clear hst HOK hokk htk HO
    go_wp2_with fail
    go_region_with (first
      | (go_at_call 78; refine (haft _ ((Below.refl _ _).drew)).mono ?_; rintro e wn ⟨fa, m, fa', m', err, rfl, hoz, herr, hbn⟩; have ZB : Hid (_ < _) := lt_some k14; have BN : Below w4.heap.size w4 wn := undrew hbn; obtain ⟨x0, x1, xf, x9⟩ := blk2 (carry k14 BN)))
    all_goals
      have HF : Hid (∀ u u', FTold a1 a3 a5 a9 w o (.returned (.tuple #[.agg #[.slice fa o.ss.length m, .slice fa' o.ps.length m'], err])) ((wn.setCell ⟨w.heap.size + 1, 0, none⟩ u).setCell ⟨w.heap.size + 1, 1, none⟩ u')) := fin_told herr (bel2 B4 BN) hoz (by omega) ZB.out
      clear hbn hoz ZB
      go_wp2
      exact bodyPost_ret (v := .tuple #[.agg #[.slice fa o.ss.length m, .slice fa' o.ps.length m'], err]) (by simp [results, Tryz.results37, go_sem, x0, x1]) rfl (HF.out _ _)
  by_cases hnl : n ≤ (L : Int)
  case neg =>
    have hnl2 : (L : Int) < n := by omega
    have hnp : ¬ n < 0 := by omega
    have htk : (putL (firstN ss.length (1 - s)) t (headB (g' + 1) ((1 - s : Nat) : Int) (t.size : Nat))).take n.toNat = (putL (firstN ss.length (1 - s)) t (headB (g' + 1) ((1 - s : Nat) : Int) (t.size : Nat))).take (L) := by rw [List.take_of_length_le (by rw [hlen]; omega), List.take_of_length_le (by rw [hlen]; omega)]
    have hst : U3.Steps w4 (.slice (some ⟨gg, 0, none⟩) (L) cc) ((putL (firstN ss.length (1 - s)) t (headB (g' + 1) ((1 - s : Nat) : Int) (t.size : Nat))).take (L)) := OSt.steps (by rw [hlen]; exact ho4) (by rw [hlen]; omega) (by rw [hlen]; omega)
    have haft : ∀ W, Below w4.heap.size w4 W → Calls Tryz.prog 78 #[.agg #[.slice sa ss.length sc, vp], .slice (some ⟨gg, 0, none⟩) (L) cc] W fun e w' => FTold a1 a3 a5 a9 W o e w' := fun W hW => by
      rw [HOK.out, htk]
      exact after_any a1 a3 a5 a9 _ _ _ ss ps _ W (hs.below (bel2 B4 hW)) (hp.below (bel2 B4 hW)) hR (hst.below hW) (fun s hs => hokk s (List.mem_of_mem_take hs))
    clear hst HOK hokk htk HO
    go_wp2_with fail
    go_region_held3 (fun w' => w'.cell? ⟨w.heap.size, 0, none⟩ = some (.slice sa ss.length sc) ∧ w'.cell? ⟨w.heap.size, 1, none⟩ = some vp)
      (first
        | (with_reducible exact keep2h k04 BN)
        | (with_reducible exact keep2h k04 (Below.refl _ _).drew)
        | go_keep)
      (first
        | (go_at_call 78; refine (haft _ ((Below.refl _ _).drew)).mono ?_; rintro e wn ⟨fa, m, fa', m', err, rfl, hoz, herr, hbn⟩; have ZB : Hid (_ < _) := lt_some k14; have BN : Below w4.heap.size w4 wn := undrew hbn; obtain ⟨x0, x1, xf, x9⟩ := blk2 (carry k14 BN)))
    have HF : Hid (∀ u u', FTold a1 a3 a5 a9 w o (.returned (.tuple #[.agg #[.slice fa o.ss.length m, .slice fa' o.ps.length m'], err])) ((wn.setCell ⟨w.heap.size + 1, 0, none⟩ u).setCell ⟨w.heap.size + 1, 1, none⟩ u')) := fin_told herr (bel2 B4 BN) hoz (by omega) ZB.out
    clear hbn hoz ZB
    go_wp2
    exact bodyPost_ret (v := .tuple #[.agg #[.slice fa o.ss.length m, .slice fa' o.ps.length m'], err]) (by simp [results, Tryz.results37, go_sem, x0, x1]) rfl (HF.out _ _)
  case pos =>
    obtain ⟨m, rfl⟩ : ∃ m : Nat, n = m := ⟨n.toNat, by omega⟩
    have hnl' : (m : Int) ≤ (L : Int) := by omega
    have hm0 : (0 : Int) ≤ (m : Int) := by omega
    have hmc : (m : Int) ≤ (cc : Int) := by omega
    have hmc' : m ≤ cc := by omega
    have hmp : 0 < m := by omega
    have hnl3 : ¬ L < m := by omega
    have hnl4 : m ≤ L := by omega
    have htk : (m : Int).toNat = m := by omega
    have hst : U3.Steps w4 (.slice (some ⟨gg, 0, none⟩) (m) cc) ((putL (firstN ss.length (1 - s)) t (headB (g' + 1) ((1 - s : Nat) : Int) (t.size : Nat))).take (m)) := OSt.steps (by rw [hlen]; exact ho4) (by rw [hlen]; omega) (by rw [hlen]; omega)
    have haft : ∀ W, Below w4.heap.size w4 W → Calls Tryz.prog 78 #[.agg #[.slice sa ss.length sc, vp], .slice (some ⟨gg, 0, none⟩) (m) cc] W fun e w' => FTold a1 a3 a5 a9 W o e w' := fun W hW => by
      rw [HOK.out, htk]
      exact after_any a1 a3 a5 a9 _ _ _ ss ps _ W (hs.below (bel2 B4 hW)) (hp.below (bel2 B4 hW)) hR (hst.below hW) (fun s hs => hokk s (List.mem_of_mem_take hs))
    clear hst HOK hokk htk HO
    go_wp2_with fail
    go_region_held3 (fun w' => w'.cell? ⟨w.heap.size, 0, none⟩ = some (.slice sa ss.length sc) ∧ w'.cell? ⟨w.heap.size, 1, none⟩ = some vp)
      (first
        | (with_reducible exact keep2h k04 BN)
        | (with_reducible exact keep2h k04 (Below.refl _ _).drew)
        | go_keep)
      (first
        | (go_at_call 78; refine (haft _ ((Below.refl _ _).drew)).mono ?_; rintro e wn ⟨fa, m, fa', m', err, rfl, hoz, herr, hbn⟩; have ZB : Hid (_ < _) := lt_some k14; have BN : Below w4.heap.size w4 wn := undrew hbn; obtain ⟨x0, x1, xf, x9⟩ := blk2 (carry k14 BN)))
    have HF : Hid (∀ u u', FTold a1 a3 a5 a9 w o (.returned (.tuple #[.agg #[.slice fa o.ss.length m, .slice fa' o.ps.length m'], err])) ((wn.setCell ⟨w.heap.size + 1, 0, none⟩ u).setCell ⟨w.heap.size + 1, 1, none⟩ u')) := fin_told herr (bel2 B4 BN) hoz (by omega) ZB.out
    clear hbn hoz ZB
    go_wp2
    exact bodyPost_ret (v := .tuple #[.agg #[.slice fa o.ss.length m, .slice fa' o.ps.length m'], err]) (by simp [results, Tryz.results37, go_sem, x0, x1]) rfl (HF.out _ _)
end Go.Proofs.YtfiabbfdnmldjaaGreatDoor.X1
