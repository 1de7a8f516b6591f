/-
  A crash, as the specification and as the program have it.
-/
import Derived.Test.YtoihhjdllcockaaTB
namespace Go.Proofs.Ytoihhjdllcockaa.TC
open Go.RowKit
open Go.Proofs.Ytoihhjdllcockaa.C0 Go.Proofs.Ytoihhjdllcockaa.S0 Go.Proofs.Ytoihhjdllcockaa.S1 Go.Proofs.Ytoihhjdllcockaa.S2 Go.Proofs.Ytoihhjdllcockaa.S3 Go.Proofs.Ytoihhjdllcockaa.S4 Go.Proofs.Ytoihhjdllcockaa.O1 Go.Proofs.Ytoihhjdllcockaa.T0 Go.Proofs.Ytoihhjdllcockaa.T1 Go.Proofs.Ytoihhjdllcockaa.T2 Go.Proofs.Ytoihhjdllcockaa.T3 Go.Proofs.Ytoihhjdllcockaa.T4 Go.Proofs.Ytoihhjdllcockaa.T6 Go.Proofs.Ytoihhjdllcockaa.T8 Go.Proofs.Ytoihhjdllcockaa.TB
open Go.Proofs.Ytoihhjdllcockaa.Dk (crashR crashOf crashTo crashTo_length crashTo_kept crashTo_lost keptAt putOne putOne_length rightB right_iff)
/-- A slice of numbers that reads as l. -/
def Ints (w : World) (v : Value) (l : List Int) : Prop :=
  ∃ (a : Option Addr) (cap : Nat), v = .slice a l.length cap ∧ l.length ≤ maxLen ∧
    (0 < l.length → ∃ b off, a = some ⟨b, off, none⟩ ∧ b < w.heap.size ∧ ∀ i z, l[i]? = some z → w.cell? ⟨b, off + i, none⟩ = some (.int .i64 z))
theorem Ints.keep {w w' : World} {v : Value} {l : List Int} (h : Ints w v l) (hz : w.heap.size ≤ w'.heap.size) (hk : ∀ g, v.ownBlock = some g → g < w.heap.size → w'.heap[g]? = w.heap[g]?) : Ints w' v l := by
  obtain ⟨a, cap, rfl, hl, hc⟩ := h
  refine ⟨a, cap, rfl, hl, fun h0 => ?_⟩
  obtain ⟨b, off, rfl, hb, hcc⟩ := hc h0
  exact ⟨b, off, rfl, by omega, fun i s hs => by rw [World.cell?_of_block (w := w) (hk b rfl hb)]; exact hcc i s hs⟩
theorem Ints.below {w w' : World} {v : Value} {l : List Int} (h : Ints w v l) (hb : Below w.heap.size w w') : Ints w' v l :=
  h.keep hb.size fun g _ hg => hb.block g hg
abbrev set2 (w : World) (g : Nat) (a b : Value) : World := (w.setCell ⟨g, 0, none⟩ a).setCell ⟨g, 1, none⟩ b
theorem set2_below {B g : Nat} {a0 w : World} (h : Below B a0 w) (hg : B ≤ g) (a b : Value) : Below B a0 (set2 w g a b) := (h.setCell (p := ⟨g, 0, none⟩) hg _).setCell (p := ⟨g, 1, none⟩) hg _
theorem fin2 {w X : World} {a a' : Option Addr} {c c' B : Nat} {ss : List ByteArray} {ps : List Pend} (h : Below w.heap.size w X) (ho : ODisk B X (.slice a ss.length c) (.slice a' ps.length c') ss ps) (hB : w.heap.size + 2 ≤ B) (p q : Value) :
    DTold w ss ps (.returned (.agg #[.slice a ss.length c, .slice a' ps.length c'])) (set2 X (w.heap.size + 1) p q) :=
  ⟨a, c, a', c', rfl, ODisk.mono ⟨(ho.1.set (p := ⟨w.heap.size + 1, 0, none⟩) (by show w.heap.size + 1 < B; omega) p).set (p := ⟨w.heap.size + 1, 1, none⟩) (by show w.heap.size + 1 < B; omega) q, (ho.2.set (p := ⟨w.heap.size + 1, 0, none⟩) (by show w.heap.size + 1 < B; omega) p).set (p := ⟨w.heap.size + 1, 1, none⟩) (by show w.heap.size + 1 < B; omega) q⟩ (by omega), set2_below h (by omega) _ _⟩
theorem fin2l {w X : World} {a : Option Addr} {c n B : Nat} {l : List ByteArray} (hl : l.length = n) (h : Below w.heap.size w X) (ho : OStrs B X (.slice a n c) l) (hB : w.heap.size + 2 ≤ B) (p q : Value) :
    DTold w l [] (.returned (.agg #[.slice a n c, .slice none 0 0])) (set2 X (w.heap.size + 1) p q) := by
  subst hl
  exact fin2 (a' := none) (c' := 0) (ps := []) h ⟨ho, World.ownsRow_nil _ _ _ _⟩ hB p q
theorem kept_yes {keep : List Int} {k : Nat} {z : Int} (h : keep[k]? = some z) (hz : 0 < z) : keptAt keep k = true := by unfold keptAt; rw [h]; simpa using hz
theorem kept_no {keep : List Int} {k : Nat} {z : Int} (h : keep[k]? = some z) (hz : ¬ 0 < z) : keptAt keep k = false := by unfold keptAt; rw [h]; simpa using hz
theorem kept_off {keep : List Int} {k : Nat} (h : ¬ k < keep.length) : keptAt keep k = false := by unfold keptAt; rw [List.getElem?_eq_none (by omega)]
def RelC (P : Nat) (W : World) (a : Option Addr) (c : Nat) (ss : List ByteArray) (ps : List Pend) (keep : List Int) (x : Value) (wr : World) : Prop :=
  ∃ k : Nat, k ≤ ps.length ∧ x = .int .i64 k ∧ OStrs P wr (.slice a ss.length c) (crashTo ss ps keep k) ∧ Wrote (mine (.slice a ss.length c)) W wr
theorem RelC.drew {P : Nat} {W : World} {a : Option Addr} {c : Nat} {ss : List ByteArray} {ps : List Pend} {keep : List Int} {x : Value} {wr : World} (h : RelC P W a c ss ps keep x wr) : RelC P W a c ss ps keep x wr.drew := by
  obtain ⟨k, h1, h2, h3, h4⟩ := h
  exact ⟨k, h1, h2, h3, h4.drew⟩
theorem RelC.put {P k g q c : Nat} {W wr : World} {ss : List ByteArray} {ps : List Pend} {keep : List Int} {d : ByteArray} (hk : k < ps.length) (hp : ps[k]? = some ((q : Int), d)) (hy : keptAt keep k = true) (ho : OStrs P wr (.slice (some ⟨g, 0, none⟩) ss.length c) (crashTo ss ps keep k)) (ht : Wrote (mine (.slice (some ⟨g, 0, none⟩) ss.length c)) W wr) :
    RelC P W (some ⟨g, 0, none⟩) c ss ps keep (.int .i64 ((k : Int) + 1)) (wr.setCell ⟨g, q, none⟩ (.string d)) := by
  refine ⟨k + 1, by omega, by simp, ?_, ht.setCell (p := ⟨g, q, none⟩) (.inr rfl) _⟩
  rw [crashTo_kept _ _ _ _ _ hp hy]
  exact stored_strs ho (crashTo_length _ _ _ _) q d
theorem RelC.skip {P k c : Nat} {a : Option Addr} {W wr : World} {ss : List ByteArray} {ps : List Pend} {keep : List Int} (hk : k < ps.length) (hy : keptAt keep k = false) (ho : OStrs P wr (.slice a ss.length c) (crashTo ss ps keep k)) (ht : Wrote (mine (.slice a ss.length c)) W wr) :
    RelC P W a c ss ps keep (.int .i64 ((k : Int) + 1)) wr :=
  ⟨k + 1, by omega, by simp, by rw [crashTo_lost _ _ _ _ hy]; exact ho, ht⟩
set_option maxRecDepth 100000 in
set_option maxHeartbeats 2400000 in
theorem crash_spec (vs vp vk : Value) (ss : List ByteArray) (ps : List Pend) (keep : List Int) (w : World) (hs : Strs w vs ss) (hp : Pends w vp ps) (hkp : Ints w vk keep) (hz : ∀ s ∈ ss, s.size ≤ maxLen) (hzp : ∀ p ∈ ps, p.2.size ≤ maxLen) (m1 : ss.length ≤ 1048576) (m2 : ps.length ≤ 1048576) :
    Calls Try.prog 19 #[.agg #[vs, vp], vk] w fun e w' => DTold w (crashR ss ps keep).1 (crashR ss ps keep).2 e w' := by
  obtain ⟨sa, sc, rfl⟩ : ∃ a c, vs = .slice a ss.length c := hs.len
  obtain ⟨pa, pc, rfl⟩ : ∃ a c, vp = .slice a ps.length c := by obtain ⟨a, c, e, _⟩ := hp; exact ⟨a, c, e⟩
  obtain ⟨k0, k1, b0, z0⟩ := T5.k_box w (.cells #[.slice sa ss.length sc, .slice pa ps.length pc] 26) (.cells #[.slice none 0 0, .slice none 0 0] 26)
  obtain ⟨ka, kcap, rfl, hkl, hkc⟩ := hkp
  by_cases g0 : 400 < keep.length
  · have hO : crashR ss ps keep = ([], []) := by unfold crashR; rw [if_pos g0]
    rw [hO]
    clear hO
    have g0' : (400 : Int) < (keep.length : Int) := by omega
    go_enter Try.func19, Try.ntmps19
    go_wp2
    exact bodyPost_ret (v := .agg #[.slice none 0 0, .slice none 0 0]) (by simp [results, Try.results19, go_sem]) rfl (none_told w _ (T5.k_box w _ _).2.2.1)
  have g0' : ¬ (400 : Int) < (keep.length : Int) := by omega
  by_cases hR : rightB ss ps = false
  · have hO : crashR ss ps keep = (ss, ps) := by unfold crashR; rw [if_neg g0, if_pos hR]
    rw [hO]
    clear hO
    go_enter Try.func19, Try.ntmps19
    go_wp2_with fail
    refine (right_spec _ _ ss ps _ (hs.below b0) (hp.below b0) hz hzp).mono ?_
    rintro e w1 ⟨rfl, hb1⟩
    have B1 := bel2 b0 hb1
    have k01 := carry k0 hb1
    have k11 := carry k1 hb1
    obtain ⟨q0, q1, -, -⟩ := blk2 k01
    rw [hR]
    go_wp2_with fail
    refine (copy_spec _ _ ss ps _ (hs.below B1) (hp.below B1) m1 m2).mono ?_
    rintro e w2 ⟨f, m, f', m', rfl, ho2, hb2⟩
    obtain ⟨r0, r1, rf, -⟩ := blk2 (carry k11 hb2)
    have HF : Hid (∀ p q, DTold w ss ps (.returned (.agg #[.slice f ss.length m, .slice f' ps.length m'])) (set2 w2 (w.heap.size + 1) p q)) := fin2 (bel2 B1 hb2) ho2 (lt_some k11)
    go_wp2
    exact bodyPost_ret (v := .agg #[.slice f ss.length m, .slice f' ps.length m']) (by simp [results, Try.results19, go_sem, r0, r1]) rfl (HF.out _ _)
  have hR1 : rightB ss ps = true := by simpa using hR
  obtain ⟨n1, n2, n3, -, hpr⟩ := (right_iff ss ps).1 hR1
  have hO : crashR ss ps keep = (crashOf ss ps keep, []) := by unfold crashR; rw [if_neg g0, if_neg hR]
  rw [hO]
  clear hO hR
  obtain ⟨i0, hi, hz0, hz1, hz2⟩ := info_parts info_str
  go_enter Try.func19, Try.ntmps19
  go_wp2_with fail
  refine (right_spec _ _ ss ps _ (hs.below b0) (hp.below b0) hz hzp).mono ?_
  rintro e w1 ⟨rfl, hb1⟩
  have B1 := bel2 b0 hb1
  have k01 := carry k0 hb1
  have k11 := carry k1 hb1
  obtain ⟨q0, q1, -, q9⟩ := blk2 k01
  clear k0 k1 hb1 b0
  rw [hR1]
  have al1 := albel w1 (.cells #[] 9)
  have hsrc := (src_strs (hs.below (bel2 B1 al1))).2
  go_wp2_with (first
    | (at_builtin; refine wpList_copy _ rfl _ _ 23 rfl 9 i0 (.string ⟨#[]⟩) 1 16 Try.underlying23 hi hz0 hz1 hz2 rfl (by decide) w1.heap.size w1.heap.size rfl (lit_s _ w1 (Nat.le_refl _)) _ _ _ rfl (cs ss) (cs_length ss) hsrc (one_cs ss) (by unfold maxLen; omega) (by omega) (by simp) ?_; intro a c w2 hown hg))
  have B2 := (bel2 B1 al1).grown hg (by simp; have := B1.size; omega) (fun k h => by cases h; exact B1.size)
  have kb := carryA ((hg.block _ (by simp; omega) (by simp; omega)).trans (carryA k01 (.cells #[] 9))) (.cells #[.slice a ss.length c, .slice none 0 0] 26)
  have kr := carryA ((hg.block _ (by have := lt_some k11; simp; omega) (by have := lt_some k11; simp; omega)).trans (carryA k11 (.cells #[] 9))) (.cells #[.slice a ss.length c, .slice none 0 0] 26)
  have kl := heap_alloc_new w2 (.cells #[.slice a ss.length c, .slice none 0 0] 26)
  have ho : OStrs w1.heap.size (w2.alloc (.cells #[.slice a ss.length c, .slice none 0 0] 26)) (.slice a ss.length c) ss := OStrs.below hown (albel _ _)
  have BW := B2.trans ((albel w2 (.cells #[.slice a ss.length c, .slice none 0 0] 26)).mono B2.size)
  have RR : ∀ g, (Value.slice a ss.length c).ownBlock = some g → w1.heap.size ≤ g ∧ g < w2.heap.size := fun g h => hown.lt g h
  have z1 : w.heap.size + 2 ≤ w1.heap.size := lt_some k11
  generalize hWe : w2.alloc (.cells #[.slice a ss.length c, .slice none 0 0] 26) = W at *
  clear hWe hsrc hown hg al1 q0 q1 q9 k01 k11 B2 z0
  have H0 : Hid (RelC w1.heap.size W a c ss ps keep (.int .i64 0) W) := ⟨0, Nat.zero_le _, rfl, ho, Wrote.refl _ _⟩
  clear ho
  obtain ⟨pa', cap2, e, hl2, hc2⟩ := hp
  simp only [Value.slice.injEq] at e
  obtain ⟨rfl, -, rfl⟩ := e
  go_loopw [6] (fun x wr => RelC w1.heap.size W a c ss ps keep x wr) (fun x _ => ps.length - (intOf x).toNat)
  case atStart => exact H0.out
  case round =>
    clear H0
    obtain ⟨k, hk, rfl, ho, ht⟩ := hrel
    have Bwr : Below w.heap.size w wr := BW.trans (ht.below BW.size (fun g h => by have := RR g h; omega))
    have kbr := carryW kb ht (fun h => by have := RR _ h; omega)
    have klr := carryW kl ht (fun h => by have := RR _ h; omega)
    obtain ⟨q0, q1, -, q9⟩ := blk2 kbr
    obtain ⟨l0, l1, lf, l9⟩ := blk2 klr
    by_cases hlt : k < ps.length
    · have hlt' : (k : Int) < (ps.length : Int) := by omega
      by_cases hkk : k < keep.length
      · have hkk' : (k : Int) < (keep.length : Int) := by omega
        obtain ⟨kb2, koff, rfl, hkb, hkcc⟩ := hkc (by omega)
        obtain ⟨zk, hzk⟩ : ∃ z, keep[k]? = some z := ⟨_, List.getElem?_eq_getElem hkk⟩
        have e0 := hkcc k zk hzk
        rw [← Bwr.cell (p := ⟨kb2, koff + k, none⟩) hkb] at e0
        by_cases hpos : 0 < zk
        · have HY : Hid (keptAt keep k = true) := kept_yes hzk hpos
          obtain ⟨g, rfl, -, hg1, hg2⟩ := form_strs ho (by rw [crashTo_length]; omega)
          have hgr := RR g rfl
          obtain ⟨b2, off2, rfl, hbb2, hcc2⟩ := hc2 (by omega)
          obtain ⟨p, hpk⟩ : ∃ p, ps[k]? = some p := ⟨_, List.getElem?_eq_getElem hlt⟩
          obtain ⟨v0, v1, -⟩ := hpr p (List.mem_of_getElem? hpk)
          obtain ⟨z, d⟩ := p
          dsimp only at v0 v1
          obtain ⟨q, rfl⟩ : ∃ q : Nat, z = q := ⟨z.toNat, by omega⟩
          obtain ⟨d0, d1⟩ := hcc2 k _ hpk
          dsimp only at d0 d1
          rw [← Bwr.cell (p := ⟨b2, off2 + k * 2, none⟩) hbb2] at d0
          rw [← Bwr.cell (p := ⟨b2, off2 + k * 2 + 1, none⟩) hbb2] at d1
          obtain ⟨⟨o, hoo⟩, hfo⟩ := own_cell_s ho q (by rw [crashTo_length]; omega)
          have HN : Hid (RelC w1.heap.size W (some ⟨g, 0, none⟩) c ss ps keep (.int .i64 ((k : Int) + 1)) (wr.setCell ⟨g, q, none⟩ (.string d))) := RelC.put hlt hpk HY.out ho ht
          have x1 : w.heap.size ≠ g := by omega
          have x2 : w2.heap.size ≠ g := by omega
          have x3 : b2 ≠ g := by omega
          clear hpk hcc2 ho ht Bwr kbr klr hkcc hzk
          go_wp2
          go_region_held3 (fun w' => w'.cell? ⟨w.heap.size, 1, none⟩ = some (.slice (some ⟨b2, off2, none⟩) ps.length pc) ∧ w'.cell? ⟨w2.heap.size, 0, none⟩ = some (.slice (some ⟨g, 0, none⟩) ss.length c) ∧ w'.cell? ⟨b2, off2 + k * 2, none⟩ = some (.int .i64 q) ∧ w'.cell? ⟨b2, off2 + k * 2 + 1, none⟩ = some (.string d))
            (first
              | exact ⟨q1, l0, d0, d1⟩
              | exact TB.keepR x1 x2 x3 q1 l0 d0 d1
              | go_keep)
            (fail)
          go_wp2
          go_roundw
          case rel => exact HN.out.drew
          case measure => simp [intOf]; omega
        · have HN : Hid (RelC w1.heap.size W a c ss ps keep (.int .i64 ((k : Int) + 1)) wr) := RelC.skip hlt (kept_no hzk hpos) ho ht
          clear ho ht Bwr kbr klr hkcc hzk
          go_wp2
          go_roundw
          case rel => exact HN.out
          case measure => simp [intOf]; omega
      · have hkk' : ¬ (k : Int) < (keep.length : Int) := by omega
        have HN : Hid (RelC w1.heap.size W a c ss ps keep (.int .i64 ((k : Int) + 1)) wr) := RelC.skip hlt (kept_off hkk) ho ht
        clear ho ht Bwr kbr klr
        go_wp2
        go_roundw
        case rel => exact HN.out
        case measure => simp [intOf]; omega
    · obtain rfl : k = ps.length := by omega
      obtain ⟨r0, r1, rf, -⟩ := blk2 (carryW kr ht (fun h => by have := RR _ h; omega))
      have HF : Hid (∀ p q, DTold w (crashOf ss ps keep) [] (.returned (.agg #[.slice a ss.length c, .slice none 0 0])) (set2 wr (w.heap.size + 1) p q)) := fin2l (crashTo_length _ _ _ _) Bwr ho z1
      clear ho ht Bwr kbr klr
      go_wp2
      exact bodyPost_ret (v := .agg #[.slice a ss.length c, .slice none 0 0]) (by simp [results, Try.results19, go_sem, r0, r1]) rfl (HF.out _ _)
end Go.Proofs.Ytoihhjdllcockaa.TC
