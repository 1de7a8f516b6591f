/-
  AreaPut, as the specification has it.
-/
import Derived.Test.YtfiabbfdnmldjaaGreatDoorW2
import Derived.Test.YtfiabbfdnmldjaaGreatDoorV1
import Derived.Test.YtfiabbfdnmldjaaGreatDoorX0
namespace Go.Proofs.YtfiabbfdnmldjaaGreatDoor.X3
open Go.RowKit Go.IntWalk
open Go.Proofs.YtfiabbfdnmldjaaGreatDoor.C0 Go.Proofs.YtfiabbfdnmldjaaGreatDoor.S0 Go.Proofs.YtfiabbfdnmldjaaGreatDoor.S1 Go.Proofs.YtfiabbfdnmldjaaGreatDoor.S2 Go.Proofs.YtfiabbfdnmldjaaGreatDoor.S3 Go.Proofs.YtfiabbfdnmldjaaGreatDoor.O1 Go.Proofs.YtfiabbfdnmldjaaGreatDoor.T0 Go.Proofs.YtfiabbfdnmldjaaGreatDoor.T2 Go.Proofs.YtfiabbfdnmldjaaGreatDoor.T3 Go.Proofs.YtfiabbfdnmldjaaGreatDoor.T4 Go.Proofs.YtfiabbfdnmldjaaGreatDoor.T5 Go.Proofs.YtfiabbfdnmldjaaGreatDoor.U0 Go.Proofs.YtfiabbfdnmldjaaGreatDoor.U1 Go.Proofs.YtfiabbfdnmldjaaGreatDoor.U2 Go.Proofs.YtfiabbfdnmldjaaGreatDoor.U3 Go.Proofs.YtfiabbfdnmldjaaGreatDoor.U4 Go.Proofs.YtfiabbfdnmldjaaGreatDoor.U5 Go.Proofs.YtfiabbfdnmldjaaGreatDoor.U8 Go.Proofs.YtfiabbfdnmldjaaGreatDoor.U9 Go.Proofs.YtfiabbfdnmldjaaGreatDoor.V0 Go.Proofs.YtfiabbfdnmldjaaGreatDoor.V3 Go.Proofs.YtfiabbfdnmldjaaGreatDoor.V4 Go.Proofs.YtfiabbfdnmldjaaGreatDoor.W0 Go.Proofs.YtfiabbfdnmldjaaGreatDoor.W2
open Go.Proofs.YtfiabbfdnmldjaaGreatDoor.Dk (Out ill rightB right_iff St doSt runS doSt_right runS_drop runS_stop runS_end)
theorem readA_k (ss : List ByteArray) (ps : List Pend) : (readA ss ps).k = codeD ss ps := by
  rw [readA_eq]
  by_cases h : codeD ss ps = 0
  · rw [if_pos h, h]
  · rw [if_neg h]; rfl
theorem code_left {ss : List ByteArray} {ps : List Pend} (h : rightB ss ps = false) : codeD ss ps = 1 := by unfold codeD; rw [if_pos h]
/-- What is there at the head of a round: k steps are done. -/
def RelQ (W : World) (X B : Nat) (ss : List ByteArray) (ps : List Pend) (l : List St) (x : Value) (wr : World) : Prop :=
  ∃ (k : Nat) (ss' : List ByteArray) (ps' : List Pend) (a : Option Addr) (c : Nat) (a' : Option Addr) (c' : Nat), k ≤ l.length ∧ x = .int .i64 (k : Nat) ∧ wr.heap[X]? = some (.cells #[.slice a ss'.length c, .slice a' ps'.length c'] 26) ∧
    ODisk B wr (.slice a ss'.length c) (.slice a' ps'.length c') ss' ps' ∧ rightB ss' ps' = true ∧ runS ss ps l = runS ss' ps' (l.drop k) ∧ Below W.heap.size W wr
abbrev zeroOut : Obj := .cells #[.slice none 0 0, .slice none 0 0, .string ⟨#[]⟩, .int .i64 0] 72
/-- A step more is done: the disk that was told is taken over. -/
theorem RelQ.step {W wr wn : World} {X B C k : Nat} {ss : List ByteArray} {ps : List Pend} {l : List St} {o : Out} {f f' : Option Addr} {m m' : Nat} {x y : Value} (hk : k < l.length) (kX : wr.heap[X]? = some (.cells #[x, y] 26)) (hX : W.heap.size ≤ X) (hB : B ≤ C)
    (bel : Below W.heap.size W wr) (ho : ODisk C wn (.slice f o.ss.length m) (.slice f' o.ps.length m') o.ss o.ps) (hCY : wr.heap.size < C) (hbn : Below wr.heap.size wr wn) (hR : rightB o.ss o.ps = true) (hrun : runS ss ps l = runS o.ss o.ps (l.drop (k + 1))) (p q r s : Value) :
    RelQ W X B ss ps l (.int .i64 ((k : Int) + 1)) (((set4 wn wr.heap.size p q r s).setCell ⟨X, 0, none⟩ (.slice f o.ss.length m)).setCell ⟨X, 1, none⟩ (.slice f' o.ps.length m')) := by
  have hlt := lt_some kX
  have t1 := set4_wrote wn wr.heap.size p q r s
  have k1 := carryW (carry kX hbn) t1 (by omega)
  have t2 := set2_wrote (set4 wn wr.heap.size p q r s) X (.slice f o.ss.length m) (.slice f' o.ps.length m')
  have o1 := ho.wrote t1 (fun g e h => by have := (ho.rows g h).1; omega)
  have o2 := o1.wrote t2 (fun g e h => by have := (ho.rows g h).1; omega)
  refine ⟨k + 1, o.ss, o.ps, f, m, f', m', by omega, by rfl, set2_at k1 _ _, o2.mono hB, hR, hrun, ?_⟩
  exact belW (belW (bel2 bel hbn) t1 (fun g e => by have := bel.size; omega)) t2 (fun g e => by omega)
theorem steps_at (ss : List ByteArray) (ps : List Pend) (t : ByteArray) (n : Int) (k : Nat) (hk : k < n.toNat) : ((stepsD ss ps t).take n.toNat)[k]? = (stepsD ss ps t)[k]? := List.getElem?_take_of_lt hk
theorem put_at (f : Nat) (t h : ByteArray) (k : Nat) : (putL f t h)[k]? = if k < secN t then some (.write ((f + k : Nat) : Int) (chunk t k)) else if k = secN t then some .flush else if k = secN t + 1 then some (.write 0 h) else if k = secN t + 2 then some .flush else none := by
  unfold putL
  by_cases h1 : k < secN t
  · rw [if_pos h1, List.getElem?_append_left (by rw [wrL_length]; exact h1)]
    unfold wrL
    rw [List.getElem?_map, List.getElem?_range h1]
    rfl
  · rw [if_neg h1, List.getElem?_append_right (by rw [wrL_length]; omega), wrL_length]
    by_cases h2 : k = secN t
    · rw [if_pos h2, h2, Nat.sub_self]; rfl
    · rw [if_neg h2]
      by_cases h3 : k = secN t + 1
      · rw [if_pos h3, h3, Nat.add_sub_cancel_left]; rfl
      · rw [if_neg h3]
        by_cases h4 : k = secN t + 2
        · rw [if_pos h4, h4, Nat.add_sub_cancel_left]; rfl
        · rw [if_neg h4, List.getElem?_eq_none]
          show 3 ≤ _
          omega
theorem chunk_ext (t : ByteArray) (k : Nat) : t.extract (64 * k) (min t.size (64 * k + 64)) = chunk t k := by
  apply ba_ext
  rw [Lib.extract_data, chunk_list, List.take_eq_take_min, List.take_eq_take_min (i := 64)]
  congr 1
  rw [List.length_drop, size_list]
  omega
theorem keepQ {wy w' : World} {D X : Nat} {x y a b : Value} {T U : TypeId} (kD : wy.heap[D]? = some (.cells #[x, y] T)) (kX : wy.heap[X]? = some (.cells #[a, b] U)) (h : Below wy.heap.size wy w') : w'.cell? ⟨D, 0, none⟩ = some x ∧ w'.cell? ⟨D, 1, none⟩ = some y ∧ w'.cell? ⟨X, 0, none⟩ = some a ∧ w'.cell? ⟨X, 1, none⟩ = some b :=
  ⟨(blk2 (carry kD h)).1, (blk2 (carry kD h)).2.1, (blk2 (carry kX h)).1, (blk2 (carry kX h)).2.1⟩
theorem keepQ4 {wy wn : World} {D X Y : Nat} {x y a b : Value} {T U : TypeId} (kD : wy.heap[D]? = some (.cells #[x, y] T)) (kX : wy.heap[X]? = some (.cells #[a, b] U)) (h : Below wy.heap.size wy wn) (hne : Hid (D ≠ Y ∧ X ≠ Y)) (p q r s : Value) :
    (set4 wn Y p q r s).cell? ⟨D, 0, none⟩ = some x ∧ (set4 wn Y p q r s).cell? ⟨D, 1, none⟩ = some y ∧ (set4 wn Y p q r s).cell? ⟨X, 0, none⟩ = some a ∧ (set4 wn Y p q r s).cell? ⟨X, 1, none⟩ = some b := by
  have h1 := blk2 (carryW (carry kD h) (set4_wrote wn Y p q r s) hne.out.1)
  have h2 := blk2 (carryW (carry kX h) (set4_wrote wn Y p q r s) hne.out.2)
  exact ⟨h1.1, h1.2.1, h2.1, h2.2.1⟩
theorem keepR {wy w' : World} {X G : Nat} {a b g0 g1 g2 g3 g4 : Value} {T U : TypeId} (kX : wy.heap[X]? = some (.cells #[a, b] T)) (kG : wy.heap[G]? = some (.cells #[g0, g1, g2, g3, g4] U)) (h : Below wy.heap.size wy w') : w'.cell? ⟨X, 0, none⟩ = some a ∧ w'.cell? ⟨X, 1, none⟩ = some b ∧ w'.cell? ⟨G, 3, none⟩ = some g3 :=
  ⟨(blk2 (carry kX h)).1, (blk2 (carry kX h)).2.1, (blk5 (carry kG h)).2.2.2.1⟩
theorem keepR4 {wy wn : World} {X G Y : Nat} {a b g0 g1 g2 g3 g4 : Value} {T U : TypeId} (kX : wy.heap[X]? = some (.cells #[a, b] T)) (kG : wy.heap[G]? = some (.cells #[g0, g1, g2, g3, g4] U)) (h : Below wy.heap.size wy wn) (hne : Hid (X ≠ Y ∧ G ≠ Y)) (p q r s : Value) :
    (set4 wn Y p q r s).cell? ⟨X, 0, none⟩ = some a ∧ (set4 wn Y p q r s).cell? ⟨X, 1, none⟩ = some b ∧ (set4 wn Y p q r s).cell? ⟨G, 3, none⟩ = some g3 := by
  have h1 := blk2 (carryW (carry kX h) (set4_wrote wn Y p q r s) hne.out.1)
  have h2 := blk5 (carryW (carry kG h) (set4_wrote wn Y p q r s) hne.out.2)
  exact ⟨h1.1, h1.2.1, h2.2.2.2.1⟩
set_option maxRecDepth 100000 in
set_option maxHeartbeats 3200000 in
theorem put_spec (vs vp : Value) (ss : List ByteArray) (ps : List Pend) (t : ByteArray) (n : Int) (w : World) (hs : Strs w vs ss) (hp : Pends w vp ps) (hz : ∀ s ∈ ss, s.size ≤ maxLen) (hzp : ∀ p ∈ ps, p.2.size ≤ maxLen) (_ht : t.size ≤ maxLen) (hn1 : -9223372036854775808 ≤ n) (hn2 : n ≤ 9223372036854775807) :
    Calls Tryz.prog 14 #[.agg #[vs, vp], .string t, .int .i64 n] w fun e w' => AT w (putA ss ps t n) e w' := by
  obtain ⟨sa, sc, rfl⟩ : ∃ a c, vs = .slice a ss.length c := hs.len
  obtain ⟨k0, k1, b0, z0⟩ := T5.k_box w (.cells #[.slice sa ss.length sc, vp] 26) (.cells #[.slice none 0 0, .slice none 0 0, .string ⟨#[]⟩, .int .i64 0, .int .i64 0] 31)
  by_cases ht8 : 8000 < t.size
  · have hO : putA ss ps t n = illA 2 := by unfold putA; rw [if_pos ht8]
    rw [hO]
    clear hO
    have ht8' : (8000 : Int) < (t.size : Int) := by omega
    go_enter Tryz.func14, Tryz.ntmps14
    go_wp2_with fail
    refine (U4.ill_spec 2 _).mono ?_
    rintro e wz ⟨rfl, hbz⟩
    obtain ⟨r0, r1, r2, r3, r4, rf, -⟩ := blk5 (carry k1 hbz)
    have HF : Hid (∀ p q r s u, AT w (illA 2) (.returned (.agg #[.slice none 0 0, .slice none 0 0, .string ⟨#[]⟩, .int .i64 0, .int .i64 2])) (set5 wz (w.heap.size + 1) p q r s u)) := fin_illA (bel2 b0 hbz) (by omega)
    go_wp2
    exact bodyPost_ret (v := .agg #[.slice none 0 0, .slice none 0 0, .string ⟨#[]⟩, .int .i64 0, .int .i64 2]) (by simp [results, Tryz.results14, go_sem, r0, r1, r2, r3, r4]) rfl (HF.out _ _ _ _ _)
  have ht8' : ¬ (8000 : Int) < (t.size : Int) := by omega
  cases hR : rightB ss ps
  · have hO : putA ss ps t n = illA 1 := by unfold putA; rw [if_neg ht8, code_left hR, if_neg (by decide)]
    rw [hO]
    clear hO
    go_enter Tryz.func14, Tryz.ntmps14
    go_wp2_with fail
    refine (right_spec _ _ ss ps _ (hs.below b0) (hp.below b0) hz hzp).mono ?_
    rintro e w1 ⟨rfl, hb1⟩
    have B1 := bel2 b0 hb1
    have k11 := carry k1 hb1
    clear k0 k1 hb1 b0
    rw [hR]
    go_wp2_with fail
    refine (U4.ill_spec 1 _).mono ?_
    rintro e wz ⟨rfl, hbz⟩
    obtain ⟨r0, r1, r2, r3, r4, rf, -⟩ := blk5 (carry k11 hbz)
    have HF : Hid (∀ p q r s u, AT w (illA 1) (.returned (.agg #[.slice none 0 0, .slice none 0 0, .string ⟨#[]⟩, .int .i64 0, .int .i64 1])) (set5 wz (w.heap.size + 1) p q r s u)) := fin_illA (bel2 B1 hbz) (by omega)
    go_wp2
    exact bodyPost_ret (v := .agg #[.slice none 0 0, .slice none 0 0, .string ⟨#[]⟩, .int .i64 0, .int .i64 1]) (by simp [results, Tryz.results14, go_sem, r0, r1, r2, r3, r4]) rfl (HF.out _ _ _ _ _)
  obtain ⟨m1, m2, m3, -, -⟩ := (right_iff ss ps).1 hR
  have hh31 := half_le _ m2
  have hread : ∀ W, Strs W (.slice sa ss.length sc) ss → Pends W vp ps → Calls Tryz.prog 13 #[.agg #[.slice sa ss.length sc, vp]] W fun e w' => AT W (readA ss ps) e w' := fun W h1 h2 => V1.read_spec _ _ ss ps W h1 h2 hz hzp
  have hkk := readA_k ss ps
  by_cases hk : codeD ss ps = 0
  case neg =>
    have hO : putA ss ps t n = illA (readA ss ps).k := by unfold putA; rw [if_neg ht8, if_neg hk, hkk]
    rw [hO]
    have hk' : ((readA ss ps).k == 0) = false := by rw [hkk]; simpa using hk
    clear hO hk hkk
    generalize readA ss ps = A at *
    go_enter Tryz.func14, Tryz.ntmps14
    go_wp2_with fail
    refine (right_spec _ _ ss ps _ (hs.below b0) (hp.below b0) hz hzp).mono ?_
    rintro e w1 ⟨rfl, hb1⟩
    have B1 := bel2 b0 hb1
    have k01 := carry k0 hb1
    have k11 := carry k1 hb1
    obtain ⟨q0, q1, -, -⟩ := blk2 k01
    clear k0 k1 hb1 b0
    rw [hR]
    go_wp2_with fail
    refine (hread _ (hs.below B1) (hp.below B1)).mono ?_
    rintro e w2 ⟨fa, m, fa', m', rfl, ho2, hb2⟩
    have B2 := bel2 (bel2 B1 hb2) (albel w2 (.cells #[.slice fa A.ss.length m, .slice fa' A.ps.length m', .string A.t, .int .i64 A.g, .int .i64 A.k] 31))
    have k12 := carryA (carry k11 hb2) (.cells #[.slice fa A.ss.length m, .slice fa' A.ps.length m', .string A.t, .int .i64 A.g, .int .i64 A.k] 31)
    clear q0 q1 k01 k11 B1 hb2 ho2
    go_wp2_with fail
    refine (U4.ill_spec A.k _).mono ?_
    rintro e wz ⟨rfl, hbz⟩
    obtain ⟨r0, r1, r2, r3, r4, rf, -⟩ := blk5 (carry k12 hbz)
    have HF : Hid (∀ p q r s u, AT w (illA A.k) (.returned (.agg #[.slice none 0 0, .slice none 0 0, .string ⟨#[]⟩, .int .i64 0, .int .i64 A.k])) (set5 wz (w.heap.size + 1) p q r s u)) := fin_illA (bel2 B2 hbz) (by omega)
    go_wp2
    exact bodyPost_ret (v := .agg #[.slice none 0 0, .slice none 0 0, .string ⟨#[]⟩, .int .i64 0, .int .i64 A.k]) (by simp [results, Tryz.results14, go_sem, r0, r1, r2, r3, r4]) rfl (HF.out _ _ _ _ _)
  have hk' : ((readA ss ps).k == 0) = true := by rw [hkk]; simpa using hk
  obtain ⟨og, g0, ⟨sd0, sd1⟩, -, -⟩ := seenD_ok hk
  have hgen := (readA_gen hk).1
  have hseen : ∀ W, Strs W (.slice sa ss.length sc) ss → Pends W vp ps → Calls Tryz.prog 41 #[.agg #[.slice sa ss.length sc, vp]] W fun e w' => e = .returned (seenV (seenD ss ps)) ∧ Below W.heap.size W w' := fun W h1 h2 => seen_spec _ _ ss ps W h1 h2 hR
  obtain ⟨s, hsd⟩ : ∃ s : Nat, (seenD ss ps).2.1 = s := ⟨(seenD ss ps).2.1.toNat, by omega⟩
  have hnew : newS ss ps = 1 - s := by unfold newS; rw [hsd]; simp
  have hs1 : s ≤ 1 := by omega
  have HO : Hid (putA ss ps t n = if halfN ss.length * 64 < t.size ∨ 1000000 ≤ (readA ss ps).g then illA 9 else ⟨(runS ss ps ((putL (firstN ss.length (1 - s)) t (headB ((readA ss ps).g + 1) ((1 - s : Nat) : Int) (t.size : Nat))).take n.toNat)).ss, (runS ss ps ((putL (firstN ss.length (1 - s)) t (headB ((readA ss ps).g + 1) ((1 - s : Nat) : Int) (t.size : Nat))).take n.toNat)).ps, ⟨#[]⟩, 0, (runS ss ps ((putL (firstN ss.length (1 - s)) t (headB ((readA ss ps).g + 1) ((1 - s : Nat) : Int) (t.size : Nat))).take n.toNat)).k⟩) := by
    unfold Hid putA putO stepsD
    rw [if_neg ht8, if_pos hk, hnew, hgen]
  unfold seenV at hseen
  rw [hsd] at hseen
  rw [← hgen] at og g0
  clear hkk hgen hnew hsd sd0 sd1 hk
  generalize putA ss ps t n = P at HO ⊢
  generalize readA ss ps = A at *
  generalize (seenD ss ps).1 = e1 at hseen
  generalize (seenD ss ps).2.2.1 = e2 at hseen
  generalize (seenD ss ps).2.2.2 = e3 at hseen
  go_enter Tryz.func14, Tryz.ntmps14
  go_wp2_with fail
  refine (right_spec _ _ ss ps _ (hs.below b0) (hp.below b0) hz hzp).mono ?_
  rintro e w1 ⟨rfl, hb1⟩
  have B1 := bel2 b0 hb1
  have k01 := carry k0 hb1
  have k11 := carry k1 hb1
  obtain ⟨q0, q1, -, -⟩ := blk2 k01
  clear k0 k1 hb1 b0
  rw [hR]
  go_wp2_with fail
  refine (hread _ (hs.below B1) (hp.below B1)).mono ?_
  rintro e w2 ⟨fa, m, fa', m', rfl, ho2, hb2⟩
  have B2 := bel2 (bel2 B1 hb2) (albel w2 (.cells #[.slice fa A.ss.length m, .slice fa' A.ps.length m', .string A.t, .int .i64 A.g, .int .i64 A.k] 31))
  have k02 := carryA (carry k01 hb2) (.cells #[.slice fa A.ss.length m, .slice fa' A.ps.length m', .string A.t, .int .i64 A.g, .int .i64 A.k] 31)
  have k12 := carryA (carry k11 hb2) (.cells #[.slice fa A.ss.length m, .slice fa' A.ps.length m', .string A.t, .int .i64 A.g, .int .i64 A.k] 31)
  have kX2 := heap_alloc_new w2 (.cells #[.slice fa A.ss.length m, .slice fa' A.ps.length m', .string A.t, .int .i64 A.g, .int .i64 A.k] 31)
  clear q0 q1 k01 k11 B1 hb2 ho2 hread
  obtain ⟨q0, q1, -, -⟩ := blk2 k02
  go_wp2_with fail
  refine (hseen _ (hs.below B2) (hp.below B2)).mono ?_
  rintro e w3 ⟨rfl, hb3⟩
  have B3 := bel2 B2 hb3
  have k03 := carry k02 hb3
  have k13 := carry k12 hb3
  have kX3 := carry kX2 hb3
  clear q0 q1 k02 k12 kX2 B2 hb3 hseen
  obtain ⟨q0, q1, -, -⟩ := blk2 k03
  obtain ⟨y0, y1, y2, y3, y4, -, -⟩ := blk5 kX3
  go_wp2_with fail
  refine (half_spec _ _ _ _ _ m1 m2).mono ?_
  rintro e w4 ⟨rfl, hb4⟩
  have B4 := bel2 B3 hb4
  have k04 := carry k03 hb4
  have k14 := carry k13 hb4
  have kX4 := carry kX3 hb4
  clear q0 q1 y0 y1 y2 y3 y4 k03 k13 kX3 B3 hb4
  obtain ⟨q0, q1, -, -⟩ := blk2 k04
  obtain ⟨y0, y1, y2, y3, y4, -, -⟩ := blk5 kX4
  by_cases hf1 : halfN ss.length * 64 < t.size
  case pos =>
    have hf1' : 64 * (halfN ss.length : Int) < (t.size : Int) := by omega
    have HK : Hid (P = illA 9) := by unfold Hid; rw [HO.out, if_pos (.inl hf1)]
    clear HO
    go_wp2_with fail
    refine (U4.ill_spec 9 _).mono ?_
    rintro e wz ⟨rfl, hbz⟩
    obtain ⟨r0, r1, r2, r3, r4, rf, -⟩ := blk5 (carry k14 hbz)
    have HF : Hid (∀ p q r s u, AT w P (.returned (.agg #[.slice none 0 0, .slice none 0 0, .string ⟨#[]⟩, .int .i64 0, .int .i64 9])) (set5 wz (w.heap.size + 1) p q r s u)) := fun p q r s u => by rw [HK.out]; exact fin_illA (bel2 B4 hbz) (by omega) p q r s u
    go_wp2
    exact bodyPost_ret (v := .agg #[.slice none 0 0, .slice none 0 0, .string ⟨#[]⟩, .int .i64 0, .int .i64 9]) (by simp [results, Tryz.results14, go_sem, r0, r1, r2, r3, r4]) rfl (HF.out _ _ _ _ _)
  have hf1' : ¬ 64 * (halfN ss.length : Int) < (t.size : Int) := by omega
  by_cases hf2 : 1000000 ≤ A.g
  case pos =>
    have HK : Hid (P = illA 9) := by unfold Hid; rw [HO.out, if_pos (.inr hf2)]
    clear HO
    go_wp2_with fail
    refine (U4.ill_spec 9 _).mono ?_
    rintro e wz ⟨rfl, hbz⟩
    obtain ⟨r0, r1, r2, r3, r4, rf, -⟩ := blk5 (carry k14 hbz)
    have HF : Hid (∀ p q r s u, AT w P (.returned (.agg #[.slice none 0 0, .slice none 0 0, .string ⟨#[]⟩, .int .i64 0, .int .i64 9])) (set5 wz (w.heap.size + 1) p q r s u)) := fun p q r s u => by rw [HK.out]; exact fin_illA (bel2 B4 hbz) (by omega) p q r s u
    go_wp2
    exact bodyPost_ret (v := .agg #[.slice none 0 0, .slice none 0 0, .string ⟨#[]⟩, .int .i64 0, .int .i64 9]) (by simp [results, Tryz.results14, go_sem, r0, r1, r2, r3, r4]) rfl (HF.out _ _ _ _ _)
  have HP : Hid (P = ⟨(runS ss ps ((putL (firstN ss.length (1 - s)) t (headB (A.g + 1) ((1 - s : Nat) : Int) (t.size : Nat))).take n.toNat)).ss, (runS ss ps ((putL (firstN ss.length (1 - s)) t (headB (A.g + 1) ((1 - s : Nat) : Int) (t.size : Nat))).take n.toNat)).ps, ⟨#[]⟩, 0, (runS ss ps ((putL (firstN ss.length (1 - s)) t (headB (A.g + 1) ((1 - s : Nat) : Int) (t.size : Nat))).take n.toNat)).k⟩) := by unfold Hid; rw [HO.out, if_neg (by omega)]
  clear HO
  go_wp2_with fail
  refine (copy_spec _ _ ss ps _ (hs.below B4) (hp.below B4) (by omega) (by omega)).mono ?_
  rintro e w5 ⟨ca, cc, ca', cc', rfl, ho5, hb5⟩
  have B5 := bel2 B4 hb5
  have k05 := carry k04 hb5
  have k15 := carry k14 hb5
  have kX5 := carry kX4 hb5
  have hsz4 := lt_some k14
  have hfirst : ∀ W, Calls Tryz.prog 43 #[.agg #[.slice sa ss.length sc, vp], .int .i64 (1 - (s : Int))] W fun e w' => e = .returned (.int .i64 (firstN ss.length (1 - s) : Nat)) ∧ Below W.heap.size W w' := fun W => by
    rw [show (1 - (s : Int)) = ((1 - s : Nat) : Int) by omega]
    exact first_spec sa ss.length sc (1 - s) vp W m1 m2 (by omega)
  have hhead : ∀ W, Calls Tryz.prog 48 #[.int .i64 (A.g + 1), .int .i64 (1 - (s : Int)), .int .i64 (t.size : Nat)] W fun e w' => e = .returned (.string (headB (A.g + 1) ((1 - s : Nat) : Int) (t.size : Nat))) ∧ Below W.heap.size W w' := fun W => by
    rw [show (1 - (s : Int)) = ((1 - s : Nat) : Int) by omega]
    exact head_spec (A.g + 1) ((1 - s : Nat) : Int) (t.size : Nat) W ⟨by omega, by omega⟩ ⟨by omega, by omega⟩ ⟨by omega, by omega⟩
  have hhs := head_size (A.g + 1) ((1 - s : Nat) : Int) (t.size : Nat)
  generalize headB (A.g + 1) ((1 - s : Nat) : Int) (t.size : Nat) = H at *
  have hf64 : firstN ss.length (1 - s) ≤ 64 := by
    unfold firstN halfN
    rcases (show 1 - s = 0 ∨ 1 - s = 1 by omega) with e | e <;> rw [e] <;> omega
  generalize firstN ss.length (1 - s) = f at *
  have hLlen : ((putL f t H).take n.toNat).length = min n.toNat (secN t + 3) := by rw [List.length_take, putL_length]
  have hLat : Hid (∀ k, k < ((putL f t H).take n.toNat).length → ((putL f t H).take n.toNat)[k]? = (putL f t H)[k]?) := fun k hk => List.getElem?_take_of_lt (by omega)
  generalize (putL f t H).take n.toNat = L at *
  have hq : ((t.size : Int) + 64 - 1) / 64 = (secN t : Int) := by unfold secN; omega
  have hN1 : 64 * secN t ≤ t.size + 63 := by unfold secN; omega
  have hN2 : t.size ≤ 64 * secN t := by unfold secN; omega
  generalize hNN : secN t = N at *
  have H0 : Hid (RelQ w5 w5.heap.size (w.heap.size + 2) ss ps L (.int .i64 0) (w5.alloc (.cells #[.slice ca ss.length cc, .slice ca' ps.length cc'] 26))) := ⟨0, ss, ps, ca, cc, ca', cc', Nat.zero_le _, rfl, heap_alloc_new _ _, (ho5.mono (by omega)).below (albel _ _), hR, rfl, albel _ _⟩
  have HNN : Hid (secN t = N) := hNN
  clear q0 q1 y0 y1 y2 y3 y4 k04 k14 kX4 hb5 ho5 B4 hNN
  clear hf1 hf1' hf2
  go_wp2_with fail
  rw [hq]
  clear hq
  go_loopw [15] (fun x wr => RelQ w5 w5.heap.size (w.heap.size + 2) ss ps L x wr) (fun x _ => L.length - (intOf x).toNat)
  case atStart => exact H0.out
  case round =>
    clear H0
    obtain ⟨k, ss', ps', a, c, a', c', hkl, rfl, kX, hO, hR', hrun, bel⟩ := hrel
    obtain ⟨p1, p2, p3, p4, p5⟩ := (right_iff ss' ps').1 hR'
    have hz' : ∀ s ∈ ss', s.size ≤ maxLen := fun s h => by have := p4 s h; unfold maxLen; omega
    have hzp' : ∀ p ∈ ps', p.2.size ≤ maxLen := fun p h => by have := (p5 p h).2.2; unfold maxLen; omega
    have HRUN : Hid (runS ss ps L = runS ss' ps' (L.drop k)) := hrun
    clear hrun p4 p5
    by_cases hlt : k < L.length
    · have hk3 : k < N + 3 := by omega
      have hk3' : (k : Int) < (N : Int) + 3 := by omega
      have hkn : (k : Int) < n := by omega
      have kdy := carryA (carry k05 bel) zeroOut
      have kXy := carryA kX zeroOut
      have kGy := carryA (carry kX5 bel) zeroOut
      have kY := heap_alloc_new wr zeroOut
      have HBY : Hid (Below wr.heap.size wr (wr.alloc zeroOut)) := albel _ _
      have HSZ : Hid (w.heap.size + 1 < w5.heap.size ∧ w5.heap.size < wr.heap.size ∧ (wr.alloc zeroOut).heap.size = wr.heap.size + 1) := ⟨lt_some k15, lt_some kX, asz _ _⟩
      have hoy := hO.below (albel wr zeroOut)
      have B7 := bel2 (bel2 B5 bel) (albel wr zeroOut)
      by_cases hkN : k < N
      · obtain ⟨K1, HK1⟩ : ∃ K1, Hid (64 * k = K1) := ⟨_, rfl⟩
        obtain ⟨K2, HK2⟩ : ∃ K2, Hid (min t.size (64 * k + 64) = K2) := ⟨_, rfl⟩
        obtain ⟨FK, HFK⟩ : ∃ FK : Nat, Hid (f + k = FK) := ⟨_, rfl⟩
        have hext : t.extract K1 K2 = chunk t k := by rw [← HK1.out, ← HK2.out]; exact chunk_ext t k
        have hcs := chunk_size t k
        have hw1 : IntKind.i64.wrap ((f : Int) + (k : Int)) = (FK : Int) := by rw [i64_in _ (by omega)]; have := HFK.out; omega
        have hw2 : IntKind.i64.wrap ((k : Int) * 64) = (K1 : Int) := by rw [i64_in _ (by omega)]; have := HK1.out; omega
        have hw3 : IntKind.i64.wrap ((k : Int) + 1) = (k : Int) + 1 := i64_in _ (by omega)
        have hw4 : IntKind.i64.wrap (((k : Int) + 1) * 64) = (k : Int) * 64 + 64 := by rw [i64_in _ (by omega)]; omega
        have hw5 : IntKind.i64.wrap (1 - (s : Int)) = 1 - (s : Int) := i64_in _ (by omega)
        have hmin : min (t.size : Int) ((k : Int) * 64 + 64) = (K2 : Int) := by have := HK2.out; omega
        have hK1 : (K1 : Int) ≤ (K2 : Int) := by have := HK1.out; have := HK2.out; omega
        have hK2 : (K2 : Int) ≤ (t.size : Int) := by have := HK2.out; omega
        have hK1n : K1 ≤ K2 := by omega
        have hK2n : K2 ≤ t.size := by omega
        have hst : L[k]? = some (.write ((f + k : Nat) : Int) (chunk t k)) := by rw [hLat.out k hlt, put_at]; rw [HNN.out, if_pos hkN]
        have hyes : Hid ((doSt ss' ps' (.write ((f + k : Nat) : Int) (chunk t k))).k = 0 → rightB (doSt ss' ps' (.write ((f + k : Nat) : Int) (chunk t k))).ss (doSt ss' ps' (.write ((f + k : Nat) : Int) (chunk t k))).ps = true ∧ runS ss ps L = runS (doSt ss' ps' (.write ((f + k : Nat) : Int) (chunk t k))).ss (doSt ss' ps' (.write ((f + k : Nat) : Int) (chunk t k))).ps (L.drop (k + 1))) := fun h => ⟨doSt_right h, HRUN.out.trans (runS_drop hst h)⟩
        have hno : Hid (¬ (doSt ss' ps' (.write ((f + k : Nat) : Int) (chunk t k))).k = 0 → runS ss ps L = ill (doSt ss' ps' (.write ((f + k : Nat) : Int) (chunk t k))).k) := fun h => HRUN.out.trans (runS_stop hst h)
        clear hst
        have hwr : ∀ W, Strs W (.slice a ss'.length c) ss' → Pends W (.slice a' ps'.length c') ps' → Calls Tryz.prog 47 #[.agg #[.slice a ss'.length c, .slice a' ps'.length c'], .int .i64 (FK : Int), .string (chunk t k)] W fun e w' => OT W (doSt ss' ps' (.write ((f + k : Nat) : Int) (chunk t k))) e w' := fun W h1 h2 => by
          rw [HFK.out]
          exact TA.write_spec _ _ ss' ps' (FK : Int) (chunk t k) W h1 h2 hz' hzp' (by omega) (by have := HFK.out; omega) (by unfold maxLen; omega)
        generalize doSt ss' ps' (.write ((f + k : Nat) : Int) (chunk t k)) = o at hwr hyes hno
        have HNE : Hid (w.heap.size ≠ wr.heap.size ∧ w5.heap.size ≠ wr.heap.size) := ⟨by have := HSZ.out; omega, by have := HSZ.out; omega⟩
        go_wp2_with fail
        obtain ⟨wy, hwy⟩ : ∃ wy, wr.alloc zeroOut = wy := ⟨_, rfl⟩
        rw [hwy] at kdy kXy kGy kY HBY HSZ hoy B7 ⊢
        clear hwy
        obtain ⟨q0, q1, -, -⟩ := blk2 kdy
        obtain ⟨v0, v1, -, -⟩ := blk2 kXy
        obtain ⟨z0', z1', z2', z3', zf', -⟩ := blk4 kY
        go_region_held3 (fun w' => w'.cell? ⟨w.heap.size, 0, none⟩ = some (.slice sa ss.length sc) ∧ w'.cell? ⟨w.heap.size, 1, none⟩ = some vp ∧ w'.cell? ⟨w5.heap.size, 0, none⟩ = some (.slice a ss'.length c) ∧ w'.cell? ⟨w5.heap.size, 1, none⟩ = some (.slice a' ps'.length c'))
          (first
            | (with_reducible exact keepQ kdy kXy BN)
            | (with_reducible exact keepQ kdy kXy (Below.refl _ _).drew)
            | (with_reducible exact keepQ4 kdy kXy BN HNE _ _ _ _)
            | go_keep)
          (first
            | (go_at_call 43; refine (hfirst _).mono ?_; rintro e wn ⟨rfl, hbn⟩; have BN : Below wy.heap.size wy wn := undrew hbn)
            | (go_at_call 44; refine (min_spec _ _ _).mono ?_; rintro e wm ⟨rfl, rfl⟩; try rw [hmin])
            | (go_at_call 47; refine (hwr _ (hoy.below BN).1.strs (hoy.below BN).2.pends).mono ?_; rintro e wn ⟨fa, m, fa', m', rfl, hoz, hbn⟩; have hoz := hoz.mono BN.size; have BN : Below wy.heap.size wy wn := bel2 BN hbn; obtain ⟨z0, z1, z2, z3, zf, z9⟩ := blk4 (carry kY BN)))
        have hne1 : w5.heap.size ≠ wr.heap.size := by have := HSZ.out; omega
        have hne2 : wr.heap.size ≠ w5.heap.size := by have := HSZ.out; omega
        by_cases hk0 : o.k = 0
        · have hk0' : (o.k == 0) = true := by simpa using hk0
          have HN : ∀ p q r s, Hid (RelQ w5 w5.heap.size (w.heap.size + 2) ss ps L (.int .i64 ((k : Int) + 1)) (((set4 wn wr.heap.size p q r s).setCell ⟨w5.heap.size, 0, none⟩ (.slice fa o.ss.length m)).setCell ⟨w5.heap.size, 1, none⟩ (.slice fa' o.ps.length m'))) := fun p q r s => RelQ.step hlt kX (Nat.le_refl _) (by have := HSZ.out; omega) bel hoz (by have := HSZ.out; omega) (bel2 HBY.out BN) (hyes.out hk0).1 (hyes.out hk0).2 p q r s
          obtain ⟨z0, z1, z2, z3, zf, z9⟩ := blk4 (carry kY BN)
          obtain ⟨v0, v1, vf, v9⟩ := blk2 (carry kXy BN)
          clear hyes hno hoz HBY hk0 hwr hoy hext hcs hw1 hw2 hw3 hw4 hw5 hmin
          go_wp2
          go_roundw
          case rel => exact (HN _ _ _ _).out
          case measure => simp [intOf]; omega
        · have hk0' : (o.k == 0) = false := by simpa using hk0
          have HK : Hid (P = illA o.k) := by unfold Hid; rw [HP.out, hno.out hk0]; rfl
          obtain ⟨z0, z1, z2, z3, zf, z9⟩ := blk4 (carry kY BN)
          have B6 : ∀ p q r s, Below w.heap.size w (set4 wn wr.heap.size p q r s) := fun p q r s => belW (bel2 (bel2 B5 bel) (bel2 HBY.out BN)) (set4_wrote wn wr.heap.size p q r s) (fun g e => by have := bel.size; have := B5.size; omega)
          have k16 : ∀ p q r s, (set4 wn wr.heap.size p q r s).heap[w.heap.size + 1]? = _ := fun p q r s => carryW (carry (carry (carry k15 bel) HBY.out) BN) (set4_wrote wn wr.heap.size p q r s) (by have := HSZ.out; omega)
          clear hyes hno hoz HBY hk0 hwr hoy hext hcs hw1 hw2 hw3 hw4 hw5 hmin
          go_wp2_with fail
          refine (U4.ill_spec o.k _).mono ?_
          rintro e wz ⟨rfl, hbz⟩
          obtain ⟨r0, r1, r2, r3, r4, rf, -⟩ := blk5 (carry (k16 _ _ _ _) hbz)
          have HF : Hid (∀ p q r s u, AT w P (.returned (.agg #[.slice none 0 0, .slice none 0 0, .string ⟨#[]⟩, .int .i64 0, .int .i64 o.k])) (set5 wz (w.heap.size + 1) p q r s u)) := fun p q r s u => by rw [HK.out]; exact fin_illA (bel2 (B6 _ _ _ _) hbz) (by omega) p q r s u
          go_wp2
          exact bodyPost_ret (v := .agg #[.slice none 0 0, .slice none 0 0, .string ⟨#[]⟩, .int .i64 0, .int .i64 o.k]) (by simp [results, Tryz.results14, go_sem, r0, r1, r2, r3, r4]) rfl (HF.out _ _ _ _ _)
      · have hkN' : ¬ ((k : Int) < (N : Int)) := by omega
        by_cases hkH : Hid (k = N + 1)
        · have hkH' : ((k : Int) == (N : Int) + 1) = true := by have := hkH.out; rw [beq_iff_eq]; omega
          have hw1 : IntKind.i64.wrap (A.g + 1) = A.g + 1 := i64_in _ (by omega)
          have hw5 : IntKind.i64.wrap (1 - (s : Int)) = 1 - (s : Int) := i64_in _ (by omega)
          have hst : L[k]? = some (.write 0 H) := by rw [hLat.out k hlt, put_at]; rw [HNN.out, if_neg hkN, if_neg (by have := hkH.out; omega), if_pos hkH.out]
          have hyes : Hid ((doSt ss' ps' (.write 0 H)).k = 0 → rightB (doSt ss' ps' (.write 0 H)).ss (doSt ss' ps' (.write 0 H)).ps = true ∧ runS ss ps L = runS (doSt ss' ps' (.write 0 H)).ss (doSt ss' ps' (.write 0 H)).ps (L.drop (k + 1))) := fun h => ⟨doSt_right h, HRUN.out.trans (runS_drop hst h)⟩
          have hno : Hid (¬ (doSt ss' ps' (.write 0 H)).k = 0 → runS ss ps L = ill (doSt ss' ps' (.write 0 H)).k) := fun h => HRUN.out.trans (runS_stop hst h)
          clear hst
          have hwr : ∀ W, Strs W (.slice a ss'.length c) ss' → Pends W (.slice a' ps'.length c') ps' → Calls Tryz.prog 47 #[.agg #[.slice a ss'.length c, .slice a' ps'.length c'], .int .i64 0, .string H] W fun e w' => OT W (doSt ss' ps' (.write 0 H)) e w' := fun W h1 h2 => TA.write_spec _ _ ss' ps' 0 H W h1 h2 hz' hzp' (by omega) (by omega) (by unfold maxLen; omega)
          generalize doSt ss' ps' (.write 0 H) = o at hwr hyes hno
          have HNE : Hid (w5.heap.size ≠ wr.heap.size ∧ w2.heap.size ≠ wr.heap.size) := ⟨by have := HSZ.out; omega, by have := HSZ.out; have := lt_some kX5; omega⟩
          go_wp2_with fail
          obtain ⟨wy, hwy⟩ : ∃ wy, wr.alloc zeroOut = wy := ⟨_, rfl⟩
          rw [hwy] at kdy kXy kGy kY HBY HSZ hoy B7 ⊢
          clear hwy
          obtain ⟨v0, v1, -, -⟩ := blk2 kXy
          obtain ⟨z0', z1', z2', z3', zf', -⟩ := blk4 kY
          obtain ⟨y0, y1, y2, y3, y4, -, -⟩ := blk5 kGy
          go_region_held3 (fun w' => w'.cell? ⟨w5.heap.size, 0, none⟩ = some (.slice a ss'.length c) ∧ w'.cell? ⟨w5.heap.size, 1, none⟩ = some (.slice a' ps'.length c') ∧ w'.cell? ⟨w2.heap.size, 3, none⟩ = some (.int .i64 A.g))
            (first
              | (with_reducible exact keepR kXy kGy BN)
              | (with_reducible exact keepR kXy kGy (Below.refl _ _).drew)
              | (with_reducible exact keepR4 kXy kGy BN HNE _ _ _ _)
              | go_keep)
            (first
              | (go_at_call 48; refine (hhead _).mono ?_; rintro e wn ⟨rfl, hbn⟩; have BN : Below wy.heap.size wy wn := undrew hbn)
              | (go_at_call 47; refine (hwr _ (hoy.below BN).1.strs (hoy.below BN).2.pends).mono ?_; rintro e wn ⟨fa, m, fa', m', rfl, hoz, hbn⟩; have hoz := hoz.mono BN.size; have BN : Below wy.heap.size wy wn := bel2 BN hbn; obtain ⟨z0, z1, z2, z3, zf, z9⟩ := blk4 (carry kY BN)))
          have hne1 : w5.heap.size ≠ wr.heap.size := by have := HSZ.out; omega
          have hne2 : wr.heap.size ≠ w5.heap.size := by have := HSZ.out; omega
          by_cases hk0 : o.k = 0
          · have hk0' : (o.k == 0) = true := by simpa using hk0
            have HN : ∀ p q r s, Hid (RelQ w5 w5.heap.size (w.heap.size + 2) ss ps L (.int .i64 ((k : Int) + 1)) (((set4 wn wr.heap.size p q r s).setCell ⟨w5.heap.size, 0, none⟩ (.slice fa o.ss.length m)).setCell ⟨w5.heap.size, 1, none⟩ (.slice fa' o.ps.length m'))) := fun p q r s => RelQ.step hlt kX (Nat.le_refl _) (by have := HSZ.out; omega) bel hoz (by have := HSZ.out; omega) (bel2 HBY.out BN) (hyes.out hk0).1 (hyes.out hk0).2 p q r s
            obtain ⟨z0, z1, z2, z3, zf, z9⟩ := blk4 (carry kY BN)
            obtain ⟨v0, v1, vf, v9⟩ := blk2 (carry kXy BN)
            clear hyes hno hoz HBY hk0 hwr hoy hw1 hw5
            go_wp2
            go_roundw
            case rel => exact (HN _ _ _ _).out
            case measure => simp [intOf]; omega
          · have hk0' : (o.k == 0) = false := by simpa using hk0
            have HK : Hid (P = illA o.k) := by unfold Hid; rw [HP.out, hno.out hk0]; rfl
            obtain ⟨z0, z1, z2, z3, zf, z9⟩ := blk4 (carry kY BN)
            have B6 : ∀ p q r s, Below w.heap.size w (set4 wn wr.heap.size p q r s) := fun p q r s => belW (bel2 (bel2 B5 bel) (bel2 HBY.out BN)) (set4_wrote wn wr.heap.size p q r s) (fun g e => by have := bel.size; have := B5.size; omega)
            have k16 : ∀ p q r s, (set4 wn wr.heap.size p q r s).heap[w.heap.size + 1]? = _ := fun p q r s => carryW (carry (carry (carry k15 bel) HBY.out) BN) (set4_wrote wn wr.heap.size p q r s) (by have := HSZ.out; omega)
            clear hyes hno hoz HBY hk0 hwr hoy hw1 hw5
            go_wp2_with fail
            refine (U4.ill_spec o.k _).mono ?_
            rintro e wz ⟨rfl, hbz⟩
            obtain ⟨r0, r1, r2, r3, r4, rf, -⟩ := blk5 (carry (k16 _ _ _ _) hbz)
            have HF : Hid (∀ p q r s u, AT w P (.returned (.agg #[.slice none 0 0, .slice none 0 0, .string ⟨#[]⟩, .int .i64 0, .int .i64 o.k])) (set5 wz (w.heap.size + 1) p q r s u)) := fun p q r s u => by rw [HK.out]; exact fin_illA (bel2 (B6 _ _ _ _) hbz) (by omega) p q r s u
            go_wp2
            exact bodyPost_ret (v := .agg #[.slice none 0 0, .slice none 0 0, .string ⟨#[]⟩, .int .i64 0, .int .i64 o.k]) (by simp [results, Tryz.results14, go_sem, r0, r1, r2, r3, r4]) rfl (HF.out _ _ _ _ _)
        · have hkH2 : ¬ k = N + 1 := hkH
          have hkH' : ((k : Int) == (N : Int) + 1) = false := by rw [beq_eq_false_iff_ne]; omega
          have hst : L[k]? = some (.flush) := by
            rw [hLat.out k hlt, put_at, HNN.out, if_neg hkN]
            rcases (show k = N ∨ k = N + 2 by omega) with e | e
            · rw [if_pos e]
            · rw [if_neg (by omega), if_neg (by omega), if_pos e]
          have hyes : Hid ((doSt ss' ps' (.flush)).k = 0 → rightB (doSt ss' ps' (.flush)).ss (doSt ss' ps' (.flush)).ps = true ∧ runS ss ps L = runS (doSt ss' ps' (.flush)).ss (doSt ss' ps' (.flush)).ps (L.drop (k + 1))) := fun h => ⟨doSt_right h, HRUN.out.trans (runS_drop hst h)⟩
          have hno : Hid (¬ (doSt ss' ps' (.flush)).k = 0 → runS ss ps L = ill (doSt ss' ps' (.flush)).k) := fun h => HRUN.out.trans (runS_stop hst h)
          clear hst
          have hwr : ∀ W, Strs W (.slice a ss'.length c) ss' → Pends W (.slice a' ps'.length c') ps' → Calls Tryz.prog 49 #[.agg #[.slice a ss'.length c, .slice a' ps'.length c']] W fun e w' => OT W (doSt ss' ps' .flush) e w' := fun W h1 h2 => TB.flush_spec _ _ ss' ps' W h1 h2 hz' hzp'
          generalize doSt ss' ps' .flush = o at hwr hyes hno
          obtain ⟨v0, v1, -, -⟩ := blk2 kXy
          go_wp2_with fail
          obtain ⟨wy, hwy⟩ : ∃ wy, wr.alloc zeroOut = wy := ⟨_, rfl⟩
          rw [hwy] at kdy kXy kGy kY HBY HSZ hoy B7 ⊢
          clear hwy
          obtain ⟨z0', z1', z2', z3', zf', -⟩ := blk4 kY
          refine (hwr _ hoy.1.strs hoy.2.pends).mono ?_
          rintro e wn ⟨fa, m, fa', m', rfl, hoz, BN⟩
          have hne1 : w5.heap.size ≠ wr.heap.size := by have := HSZ.out; omega
          have hne2 : wr.heap.size ≠ w5.heap.size := by have := HSZ.out; omega
          by_cases hk0 : o.k = 0
          · have hk0' : (o.k == 0) = true := by simpa using hk0
            have HN : ∀ p q r s, Hid (RelQ w5 w5.heap.size (w.heap.size + 2) ss ps L (.int .i64 ((k : Int) + 1)) (((set4 wn wr.heap.size p q r s).setCell ⟨w5.heap.size, 0, none⟩ (.slice fa o.ss.length m)).setCell ⟨w5.heap.size, 1, none⟩ (.slice fa' o.ps.length m'))) := fun p q r s => RelQ.step hlt kX (Nat.le_refl _) (by have := HSZ.out; omega) bel hoz (by have := HSZ.out; omega) (bel2 HBY.out BN) (hyes.out hk0).1 (hyes.out hk0).2 p q r s
            obtain ⟨z0, z1, z2, z3, zf, z9⟩ := blk4 (carry kY BN)
            obtain ⟨v0, v1, vf, v9⟩ := blk2 (carry kXy BN)
            clear hyes hno hoz HBY hk0 hwr hoy
            go_wp2
            go_roundw
            case rel => exact (HN _ _ _ _).out
            case measure => simp [intOf]; omega
          · have hk0' : (o.k == 0) = false := by simpa using hk0
            have HK : Hid (P = illA o.k) := by unfold Hid; rw [HP.out, hno.out hk0]; rfl
            obtain ⟨z0, z1, z2, z3, zf, z9⟩ := blk4 (carry kY BN)
            have B6 : ∀ p q r s, Below w.heap.size w (set4 wn wr.heap.size p q r s) := fun p q r s => belW (bel2 (bel2 B5 bel) (bel2 HBY.out BN)) (set4_wrote wn wr.heap.size p q r s) (fun g e => by have := bel.size; have := B5.size; omega)
            have k16 : ∀ p q r s, (set4 wn wr.heap.size p q r s).heap[w.heap.size + 1]? = _ := fun p q r s => carryW (carry (carry (carry k15 bel) HBY.out) BN) (set4_wrote wn wr.heap.size p q r s) (by have := HSZ.out; omega)
            clear hyes hno hoz HBY hk0 hwr hoy
            go_wp2_with fail
            refine (U4.ill_spec o.k _).mono ?_
            rintro e wz ⟨rfl, hbz⟩
            obtain ⟨r0, r1, r2, r3, r4, rf, -⟩ := blk5 (carry (k16 _ _ _ _) hbz)
            have HF : Hid (∀ p q r s u, AT w P (.returned (.agg #[.slice none 0 0, .slice none 0 0, .string ⟨#[]⟩, .int .i64 0, .int .i64 o.k])) (set5 wz (w.heap.size + 1) p q r s u)) := fun p q r s u => by rw [HK.out]; exact fin_illA (bel2 (B6 _ _ _ _) hbz) (by omega) p q r s u
            go_wp2
            exact bodyPost_ret (v := .agg #[.slice none 0 0, .slice none 0 0, .string ⟨#[]⟩, .int .i64 0, .int .i64 o.k]) (by simp [results, Tryz.results14, go_sem, r0, r1, r2, r3, r4]) rfl (HF.out _ _ _ _ _)
    · have hk0 : k = L.length := by omega
      have HPE : Hid (P = ⟨ss', ps', ⟨#[]⟩, 0, 0⟩) := by unfold Hid; rw [HP.out, HRUN.out, runS_end (by omega)]
      obtain ⟨v0, v1, -, -⟩ := blk2 kX
      obtain ⟨r0, r1, r2, r3, r4, rf, r9⟩ := blk5 (carry k15 bel)
      have HF : Hid (∀ p q r s u, AT w P (.returned (.agg #[.slice a ss'.length c, .slice a' ps'.length c', .string ⟨#[]⟩, .int .i64 0, .int .i64 0])) (set5 wr (w.heap.size + 1) p q r s u)) := fun p q r s u => by rw [HPE.out]; exact fin_area (bel2 B5 bel) hO (by omega) (by omega) p q r s u
      by_cases hk3 : k < N + 3
      · have hk3' : (k : Int) < (N : Int) + 3 := by omega
        have hkn : ¬ (k : Int) < n := by omega
        clear hk0 hlt
        go_wp2
        exact bodyPost_ret (v := .agg #[.slice a ss'.length c, .slice a' ps'.length c', .string ⟨#[]⟩, .int .i64 0, .int .i64 0]) (by simp [results, Tryz.results14, go_sem, r0, r1, r2, r3, r4]) rfl (HF.out _ _ _ _ _)
      · have hk3' : ¬ (k : Int) < (N : Int) + 3 := by omega
        clear hk0 hlt
        go_wp2
        exact bodyPost_ret (v := .agg #[.slice a ss'.length c, .slice a' ps'.length c', .string ⟨#[]⟩, .int .i64 0, .int .i64 0]) (by simp [results, Tryz.results14, go_sem, r0, r1, r2, r3, r4]) rfl (HF.out _ _ _ _ _)
end Go.Proofs.YtfiabbfdnmldjaaGreatDoor.X3
