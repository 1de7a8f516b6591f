/-
  A crash, as the program has it.
-/
import Derived.Test.YtoihhjdllcockaaTC
namespace Go.Proofs.Ytoihhjdllcockaa.TD
open Go.RowKit
open Go.Proofs.Ytoihhjdllcockaa.C0 Go.Proofs.Ytoihhjdllcockaa.S0 Go.Proofs.Ytoihhjdllcockaa.S1 Go.Proofs.Ytoihhjdllcockaa.S2 Go.Proofs.Ytoihhjdllcockaa.S3 Go.Proofs.Ytoihhjdllcockaa.S4 Go.Proofs.Ytoihhjdllcockaa.O1 Go.Proofs.Ytoihhjdllcockaa.T0 Go.Proofs.Ytoihhjdllcockaa.T1 Go.Proofs.Ytoihhjdllcockaa.T2 Go.Proofs.Ytoihhjdllcockaa.T3 Go.Proofs.Ytoihhjdllcockaa.T4 Go.Proofs.Ytoihhjdllcockaa.T6 Go.Proofs.Ytoihhjdllcockaa.T8 Go.Proofs.Ytoihhjdllcockaa.TB Go.Proofs.Ytoihhjdllcockaa.TC
open Go.Proofs.Ytoihhjdllcockaa.Dk (crashR crashOf crashTo crashTo_length crashTo_kept crashTo_lost keptAt putOne putOne_length rightB right_iff)
def RelV (P m n : Nat) (W : World) (a : Option Addr) (c : Nat) (ss : List ByteArray) (ps : List Pend) (keep : List Int) (x : Value) (wr : World) : Prop :=
  ∃ k : Nat, k ≤ ps.length ∧ x = .int .i64 k ∧ OStrs P wr (.slice a ss.length c) (crashTo ss ps keep k) ∧ MapIs wr m n (fun i => if i < k then none else ps[i]?) ∧ Wrote (two m (.slice a ss.length c)) W wr
theorem upd_next (ps : List Pend) (k i : Nat) : upd (fun i => if i < k then none else ps[i]?) k none i = if i < k + 1 then none else ps[i]? := by
  show (if i = k then none else if i < k then none else ps[i]?) = if i < k + 1 then none else ps[i]?
  by_cases e : i = k
  · subst e; rw [if_pos rfl, if_pos (by omega)]
  · rw [if_neg e]
    by_cases h : i < k
    · rw [if_pos h, if_pos (by omega)]
    · rw [if_neg h, if_neg (by omega)]
theorem RelV.put {P m n k c : Nat} {W wr w2 : World} {a : Option Addr} {ss : List ByteArray} {ps : List Pend} {keep : List Int} {p : Pend} (hk : k < ps.length) (hp : ps[k]? = some p) (hy : keptAt keep k = true) (ho : OStrs P w2 (.slice a ss.length c) (putOne (crashTo ss ps keep k) p)) (hm : MapIs w2 m n (upd (fun i => if i < k then none else ps[i]?) k none))
    (h1 : Wrote (two m (.slice a ss.length c)) W wr) (h2 : Wrote (two m (.slice a ss.length c)) wr w2) : RelV P m n W a c ss ps keep (.int .i64 ((k : Int) + 1)) w2 :=
  ⟨k + 1, by omega, by simp, by rw [crashTo_kept _ _ _ _ _ hp hy]; exact ho, hm.congr (fun i _ => upd_next ps k i), h1.trans h2⟩
theorem RelV.skip {P m n k c : Nat} {W wr w2 : World} {a : Option Addr} {ss : List ByteArray} {ps : List Pend} {keep : List Int} (hk : k < ps.length) (hy : keptAt keep k = false) (ho : OStrs P wr (.slice a ss.length c) (crashTo ss ps keep k)) (hm0 : MapIs wr m n (fun i => if i < k then none else ps[i]?)) (hm : MapIs w2 m n (upd (fun i => if i < k then none else ps[i]?) k none))
    (h1 : Wrote (two m (.slice a ss.length c)) W wr) (hg : wr.grownBy w2 (some m)) : RelV P m n W a c ss ps keep (.int .i64 ((k : Int) + 1)) w2 :=
  ⟨k + 1, by omega, by simp, by rw [crashTo_lost _ _ _ _ hy]; exact own_keep ho fun g h => hg.block g (ho.lt g h).2 (fun e => ne_row hm0 ho (by rw [h]; exact e)), hm.congr (fun i _ => upd_next ps k i),
    h1.trans (Wrote.of_grown hg (fun k' e => .inl (by simpa using e.symm)))⟩
set_option maxRecDepth 100000 in
set_option maxHeartbeats 2400000 in
theorem crash_impl (vs vp vk : Value) (ss : List ByteArray) (ps : List Pend) (keep : List Int) (w : World) (hs : Strs w vs ss) (hp : Pends w vp ps) (hkp : Ints w vk keep) (hz : ∀ s ∈ ss, s.size ≤ maxLen) (hzp : ∀ p ∈ ps, p.2.size ≤ maxLen) (m1 : ss.length ≤ 1048576) (m2 : ps.length ≤ 1048576) :
    Calls Try.prog 12 #[.agg #[vs, vp], vk] w fun e w' => DTold w (crashR ss ps keep).1 (crashR ss ps keep).2 e w' := by
  obtain ⟨sa, sc, rfl⟩ : ∃ a c, vs = .slice a ss.length c := hs.len
  obtain ⟨pa, pc, rfl⟩ : ∃ a c, vp = .slice a ps.length c := by obtain ⟨a, c, e, _⟩ := hp; exact ⟨a, c, e⟩
  obtain ⟨k0, k1, b0, z0⟩ := T5.k_box w (.cells #[.slice sa ss.length sc, .slice pa ps.length pc] 26) (.cells #[.slice none 0 0, .slice none 0 0] 26)
  obtain ⟨ka, kcap, rfl, hkl, hkc⟩ := hkp
  by_cases g0 : 400 < keep.length
  · have hO : crashR ss ps keep = ([], []) := by unfold crashR; rw [if_pos g0]
    rw [hO]
    clear hO
    have g0' : (400 : Int) < (keep.length : Int) := by omega
    go_enter Try.func12, Try.ntmps12
    go_wp2
    exact bodyPost_ret (v := .agg #[.slice none 0 0, .slice none 0 0]) (by simp [results, Try.results12, go_sem]) rfl (none_told w _ (T5.k_box w _ _).2.2.1)
  have g0' : ¬ (400 : Int) < (keep.length : Int) := by omega
  by_cases hR : rightB ss ps = false
  · have hO : crashR ss ps keep = (ss, ps) := by unfold crashR; rw [if_neg g0, if_pos hR]
    rw [hO]
    clear hO
    go_enter Try.func12, Try.ntmps12
    go_wp2_with fail
    refine (right_impl _ _ ss ps _ (hs.below b0) (hp.below b0) hz hzp).mono ?_
    rintro e w1 ⟨rfl, hb1⟩
    have B1 := bel2 b0 hb1
    have k01 := carry k0 hb1
    have k11 := carry k1 hb1
    obtain ⟨q0, q1, -, -⟩ := blk2 k01
    rw [hR]
    go_wp2_with fail
    refine (copied_any _ _ ss ps _ (hs.below B1) (hp.below B1) m1 m2).mono ?_
    rintro e w2 ⟨f, m, f', m', rfl, ho2, hb2⟩
    obtain ⟨r0, r1, rf, -⟩ := blk2 (carry k11 hb2)
    have HF : Hid (∀ p q, DTold w ss ps (.returned (.agg #[.slice f ss.length m, .slice f' ps.length m'])) (set2 w2 (w.heap.size + 1) p q)) := fin2 (bel2 B1 hb2) ho2 (lt_some k11)
    go_wp2
    exact bodyPost_ret (v := .agg #[.slice f ss.length m, .slice f' ps.length m']) (by simp [results, Try.results12, go_sem, r0, r1]) rfl (HF.out _ _)
  have hR1 : rightB ss ps = true := by simpa using hR
  obtain ⟨n1, n2, n3, -, hpr⟩ := (right_iff ss ps).1 hR1
  have hO : crashR ss ps keep = (crashOf ss ps keep, []) := by unfold crashR; rw [if_neg g0, if_neg hR]
  rw [hO]
  clear hO hR
  go_enter Try.func12, Try.ntmps12
  go_wp2_with fail
  refine (right_impl _ _ ss ps _ (hs.below b0) (hp.below b0) hz hzp).mono ?_
  rintro e w1 ⟨rfl, hb1⟩
  have B1 := bel2 b0 hb1
  have k01 := carry k0 hb1
  have k11 := carry k1 hb1
  obtain ⟨q0, q1, -, q9⟩ := blk2 k01
  clear k0 k1 hb1 b0
  rw [hR1]
  go_wp2_with fail
  refine (T7.atWork_any _ _ ss ps _ (hs.below B1) (hp.below B1) n2 n3).mono ?_
  rintro e w2 ⟨a, c, m, n, rfl, o2, m2', hn, hm1, hb2⟩
  have RR : ∀ g, two m (.slice a ss.length c) g → w1.heap.size ≤ g ∧ g < w2.heap.size := fun g h => by
    rcases h with h | h
    · subst h; exact ⟨hm1, m2'.lt⟩
    · exact o2.lt g h
  have B2 := bel2 B1 hb2
  have z1 : w.heap.size + 2 ≤ w1.heap.size := lt_some k11
  have kr := carryA (carry k11 hb2) (.cells #[.slice a ss.length c, .map (some m), .int .i64 (ps.length : Nat)] 69)
  have kl := heap_alloc_new w2 (.cells #[.slice a ss.length c, .map (some m), .int .i64 (ps.length : Nat)] 69)
  have ho := o2.below (albel w2 (.cells #[.slice a ss.length c, .map (some m), .int .i64 (ps.length : Nat)] 69))
  have hm := m2'.alloc (.cells #[.slice a ss.length c, .map (some m), .int .i64 (ps.length : Nat)] 69)
  have BW := bel2 B2 (albel w2 (.cells #[.slice a ss.length c, .map (some m), .int .i64 (ps.length : Nat)] 69))
  have Z2 : Hid (w1.heap.size ≤ w2.heap.size) := hb2.size
  clear q0 q1 q9 k01 k11 hb2 o2 m2' B2 z0
  go_wp2
  generalize hWe : w2.alloc (.cells #[.slice a ss.length c, .map (some m), .int .i64 (ps.length : Nat)] 69) = W at *
  clear hWe
  have H0 : Hid (RelV w1.heap.size m n W a c ss ps keep (.int .i64 0) W) := ⟨0, Nat.zero_le _, rfl, ho, hm.congr (fun i _ => by simp), Wrote.refl _ _⟩
  clear ho hm
  go_loopw [20] (fun x wr => RelV w1.heap.size m n W a c ss ps keep x wr) (fun x _ => ps.length - (intOf x).toNat)
  case atStart => exact H0.out
  case round =>
    clear H0
    obtain ⟨k, hk, rfl, ho, hm, ht⟩ := hrel
    have Bwr : Below w.heap.size w wr := BW.trans (ht.below BW.size (fun g h => by have := RR g h; omega))
    have klr := carryW kl ht (fun h => by have := RR _ h; omega)
    have krr := carryW kr ht (fun h => by have := RR _ h; omega)
    obtain ⟨l0, l1, l2, lf, l9⟩ := blk3 klr
    by_cases hlt : k < ps.length
    · have hlt' : (k : Int) < (ps.length : Int) := by omega
      obtain ⟨w4, hdel, hm4, hg4⟩ := hm.drop k (by omega) 0
      by_cases hkk : k < keep.length
      · have hkk' : (k : Int) < (keep.length : Int) := by omega
        obtain ⟨kb2, koff, rfl, hkb, hkcc⟩ := hkc (by omega)
        obtain ⟨zk, hzk⟩ : ∃ z, keep[k]? = some z := ⟨_, List.getElem?_eq_getElem hkk⟩
        have e0 := hkcc k zk hzk
        rw [← Bwr.cell (p := ⟨kb2, koff + k, none⟩) hkb] at e0
        by_cases hpos : 0 < zk
        · have HY : Hid (keptAt keep k = true) := kept_yes hzk hpos
          obtain ⟨p, hpk⟩ : ∃ p, ps[k]? = some p := ⟨_, List.getElem?_eq_getElem hlt⟩
          obtain ⟨v0, v1, -⟩ := hpr p (List.mem_of_getElem? hpk)
          have HC : Hid (∀ x, Calls Try.prog 44 #[.agg #[.slice a ss.length c, .map (some m), x], .int .i64 k] wr fun e w' => e = .returned (.tuple #[]) ∧ RelV w1.heap.size m n W a c ss ps keep (.int .i64 ((k : Int) + 1)) w') := fun x =>
            (flush_len w1.heap.size a c m n k ss.length _ _ p x wr (crashTo_length _ _ _ _) ho hm (by show (if k < k then none else ps[k]?) = some p; rw [if_neg (by omega), hpk]) (by omega) v0 v1 n2).mono (fun e w' h => ⟨h.1, RelV.put hlt hpk HY.out h.2.1 h.2.2.1 ht h.2.2.2⟩)
          clear hpk ho hm ht Bwr klr krr v0 v1 hdel hm4 hg4 hkcc hzk
          go_wp2_with fail
          refine (HC.out _).mono ?_
          rintro e w3 ⟨rfl, HN⟩
          go_wp2
          go_roundw
          case rel => exact HN
          case measure => simp [intOf]; omega
        · have HN : Hid (RelV w1.heap.size m n W a c ss ps keep (.int .i64 ((k : Int) + 1)) w4) := RelV.skip hlt (kept_no hzk hpos) ho hm hm4 ht hg4
          clear ho ht Bwr klr krr hm hm4 hg4 hkcc hzk
          go_wp2
          go_roundw
          case rel => exact HN.out
          case measure => simp [intOf]; omega
      · have hkk' : ¬ (k : Int) < (keep.length : Int) := by omega
        have HN : Hid (RelV w1.heap.size m n W a c ss ps keep (.int .i64 ((k : Int) + 1)) w4) := RelV.skip hlt (kept_off hkk) ho hm hm4 ht hg4
        clear ho ht Bwr klr krr hm hm4 hg4
        go_wp2
        go_roundw
        case rel => exact HN.out
        case measure => simp [intOf]; omega
    · obtain rfl : k = ps.length := by omega
      have HD : Hid (∀ i, i < ps.length → (fun i => if i < ps.length then none else ps[i]?) i = none) := fun i hi => by show (if i < ps.length then none else ps[i]?) = none; rw [if_pos hi]
      go_wp2_with fail
      refine (disk_any a ss.length c m n ps.length _ _ hm HD.out n3).mono ?_
      rintro e w3 ⟨rfl, hb3⟩
      obtain ⟨r0, r1, rf, -⟩ := blk2 (carry krr hb3)
      have HF : Hid (∀ p q, DTold w (crashOf ss ps keep) [] (.returned (.agg #[.slice a ss.length c, .slice none 0 0])) (set2 w3 (w.heap.size + 1) p q)) := fin2l (crashTo_length _ _ _ _) (bel2 Bwr hb3) (ho.below hb3) z1
      clear ho ht Bwr klr krr hm HD
      go_wp2
      exact bodyPost_ret (v := .agg #[.slice a ss.length c, .slice none 0 0]) (by simp [results, Try.results12, go_sem, r0, r1]) rfl (HF.out _ _)
end Go.Proofs.Ytoihhjdllcockaa.TD
