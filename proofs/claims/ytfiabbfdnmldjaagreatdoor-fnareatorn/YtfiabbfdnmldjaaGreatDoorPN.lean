/-
  TC TD S7 S8: parts of the proof, one behind the other.
-/
import Derived.Test.YtfiabbfdnmldjaaGreatDoorPF
import Derived.Test.YtfiabbfdnmldjaaGreatDoorPC
/-
  A crash, as the specification and as the program have it.
-/
namespace Go.Proofs.YtfiabbfdnmldjaaGreatDoor.TC
open Go.RowKit
open Go.Proofs.YtfiabbfdnmldjaaGreatDoor.C0 Go.Proofs.YtfiabbfdnmldjaaGreatDoor.S0 Go.Proofs.YtfiabbfdnmldjaaGreatDoor.S1 Go.Proofs.YtfiabbfdnmldjaaGreatDoor.S2 Go.Proofs.YtfiabbfdnmldjaaGreatDoor.S3 Go.Proofs.YtfiabbfdnmldjaaGreatDoor.S4 Go.Proofs.YtfiabbfdnmldjaaGreatDoor.O1 Go.Proofs.YtfiabbfdnmldjaaGreatDoor.T0 Go.Proofs.YtfiabbfdnmldjaaGreatDoor.T1 Go.Proofs.YtfiabbfdnmldjaaGreatDoor.T2 Go.Proofs.YtfiabbfdnmldjaaGreatDoor.T3 Go.Proofs.YtfiabbfdnmldjaaGreatDoor.T4 Go.Proofs.YtfiabbfdnmldjaaGreatDoor.T6 Go.Proofs.YtfiabbfdnmldjaaGreatDoor.T8 Go.Proofs.YtfiabbfdnmldjaaGreatDoor.TB
open Go.Proofs.YtfiabbfdnmldjaaGreatDoor.Dk (crashR crashOf crashTo crashTo_length crashTo_kept crashTo_lost keptAt putOne putOne_length rightB right_iff)
/-- A slice of numbers that reads as l. -/
def Ints (w : World) (v : Value) (l : List Int) : Prop :=
  ∃ (a : Option Addr) (cap : Nat), v = .slice a l.length cap ∧ l.length ≤ maxLen ∧
    (0 < l.length → ∃ b off, a = some ⟨b, off, none⟩ ∧ b < w.heap.size ∧ ∀ i z, l[i]? = some z → w.cell? ⟨b, off + i, none⟩ = some (.int .i64 z))
theorem Ints.keep {w w' : World} {v : Value} {l : List Int} (h : Ints w v l) (hz : w.heap.size ≤ w'.heap.size) (hk : ∀ g, v.ownBlock = some g → g < w.heap.size → w'.heap[g]? = w.heap[g]?) : Ints w' v l := by
  obtain ⟨a, cap, rfl, hl, hc⟩ := h
  refine ⟨a, cap, rfl, hl, fun h0 => ?_⟩
  obtain ⟨b, off, rfl, hb, hcc⟩ := hc h0
  exact ⟨b, off, rfl, by omega, fun i s hs => by rw [World.cell?_of_block (w := w) (hk b rfl hb)]; exact hcc i s hs⟩
theorem Ints.below {w w' : World} {v : Value} {l : List Int} (h : Ints w v l) (hb : Below w.heap.size w w') : Ints w' v l :=
  h.keep hb.size fun g _ hg => hb.block g hg
abbrev set2 (w : World) (g : Nat) (a b : Value) : World := (w.setCell ⟨g, 0, none⟩ a).setCell ⟨g, 1, none⟩ b
theorem set2_below {B g : Nat} {a0 w : World} (h : Below B a0 w) (hg : B ≤ g) (a b : Value) : Below B a0 (set2 w g a b) := (h.setCell (p := ⟨g, 0, none⟩) hg _).setCell (p := ⟨g, 1, none⟩) hg _
theorem fin2 {w X : World} {a a' : Option Addr} {c c' B : Nat} {ss : List ByteArray} {ps : List Pend} (h : Below w.heap.size w X) (ho : ODisk B X (.slice a ss.length c) (.slice a' ps.length c') ss ps) (hB : w.heap.size + 2 ≤ B) (p q : Value) :
    DTold w ss ps (.returned (.agg #[.slice a ss.length c, .slice a' ps.length c'])) (set2 X (w.heap.size + 1) p q) :=
  ⟨a, c, a', c', rfl, ODisk.mono ⟨(ho.1.set (p := ⟨w.heap.size + 1, 0, none⟩) (by show w.heap.size + 1 < B; omega) p).set (p := ⟨w.heap.size + 1, 1, none⟩) (by show w.heap.size + 1 < B; omega) q, (ho.2.set (p := ⟨w.heap.size + 1, 0, none⟩) (by show w.heap.size + 1 < B; omega) p).set (p := ⟨w.heap.size + 1, 1, none⟩) (by show w.heap.size + 1 < B; omega) q⟩ (by omega), set2_below h (by omega) _ _⟩
theorem fin2l {w X : World} {a : Option Addr} {c n B : Nat} {l : List ByteArray} (hl : l.length = n) (h : Below w.heap.size w X) (ho : OStrs B X (.slice a n c) l) (hB : w.heap.size + 2 ≤ B) (p q : Value) :
    DTold w l [] (.returned (.agg #[.slice a n c, .slice none 0 0])) (set2 X (w.heap.size + 1) p q) := by
  subst hl
  exact fin2 (a' := none) (c' := 0) (ps := []) h ⟨ho, World.ownsRow_nil _ _ _ _⟩ hB p q
theorem kept_yes {keep : List Int} {k : Nat} {z : Int} (h : keep[k]? = some z) (hz : 0 < z) : keptAt keep k = true := by unfold keptAt; rw [h]; simpa using hz
theorem kept_no {keep : List Int} {k : Nat} {z : Int} (h : keep[k]? = some z) (hz : ¬ 0 < z) : keptAt keep k = false := by unfold keptAt; rw [h]; simpa using hz
theorem kept_off {keep : List Int} {k : Nat} (h : ¬ k < keep.length) : keptAt keep k = false := by unfold keptAt; rw [List.getElem?_eq_none (by omega)]
def RelC (P : Nat) (W : World) (a : Option Addr) (c : Nat) (ss : List ByteArray) (ps : List Pend) (keep : List Int) (x : Value) (wr : World) : Prop :=
  ∃ k : Nat, k ≤ ps.length ∧ x = .int .i64 k ∧ OStrs P wr (.slice a ss.length c) (crashTo ss ps keep k) ∧ Wrote (mine (.slice a ss.length c)) W wr
theorem RelC.drew {P : Nat} {W : World} {a : Option Addr} {c : Nat} {ss : List ByteArray} {ps : List Pend} {keep : List Int} {x : Value} {wr : World} (h : RelC P W a c ss ps keep x wr) : RelC P W a c ss ps keep x wr.drew := by
  obtain ⟨k, h1, h2, h3, h4⟩ := h
  exact ⟨k, h1, h2, h3, h4.drew⟩
theorem RelC.put {P k g q c : Nat} {W wr : World} {ss : List ByteArray} {ps : List Pend} {keep : List Int} {d : ByteArray} (hk : k < ps.length) (hp : ps[k]? = some ((q : Int), d)) (hy : keptAt keep k = true) (ho : OStrs P wr (.slice (some ⟨g, 0, none⟩) ss.length c) (crashTo ss ps keep k)) (ht : Wrote (mine (.slice (some ⟨g, 0, none⟩) ss.length c)) W wr) :
    RelC P W (some ⟨g, 0, none⟩) c ss ps keep (.int .i64 ((k : Int) + 1)) (wr.setCell ⟨g, q, none⟩ (.string d)) := by
  refine ⟨k + 1, by omega, by simp, ?_, ht.setCell (p := ⟨g, q, none⟩) (.inr rfl) _⟩
  rw [crashTo_kept _ _ _ _ _ hp hy]
  exact stored_strs ho (crashTo_length _ _ _ _) q d
theorem RelC.skip {P k c : Nat} {a : Option Addr} {W wr : World} {ss : List ByteArray} {ps : List Pend} {keep : List Int} (hk : k < ps.length) (hy : keptAt keep k = false) (ho : OStrs P wr (.slice a ss.length c) (crashTo ss ps keep k)) (ht : Wrote (mine (.slice a ss.length c)) W wr) :
    RelC P W a c ss ps keep (.int .i64 ((k : Int) + 1)) wr :=
  ⟨k + 1, by omega, by simp, by rw [crashTo_lost _ _ _ _ hy]; exact ho, ht⟩
set_option maxRecDepth 100000 in
set_option maxHeartbeats 2400000 in
theorem crash_spec (vs vp vk : Value) (ss : List ByteArray) (ps : List Pend) (keep : List Int) (w : World) (hs : Strs w vs ss) (hp : Pends w vp ps) (hkp : Ints w vk keep) (hz : ∀ s ∈ ss, s.size ≤ maxLen) (hzp : ∀ p ∈ ps, p.2.size ≤ maxLen) (m1 : ss.length ≤ 1048576) (m2 : ps.length ≤ 1048576) :
    Calls Tryz.prog 67 #[.agg #[vs, vp], vk] w fun e w' => DTold w (crashR ss ps keep).1 (crashR ss ps keep).2 e w' := by
  obtain ⟨sa, sc, rfl⟩ : ∃ a c, vs = .slice a ss.length c := hs.len
  obtain ⟨pa, pc, rfl⟩ : ∃ a c, vp = .slice a ps.length c := by obtain ⟨a, c, e, _⟩ := hp; exact ⟨a, c, e⟩
  obtain ⟨k0, k1, b0, z0⟩ := T5.k_box w (.cells #[.slice sa ss.length sc, .slice pa ps.length pc] 26) (.cells #[.slice none 0 0, .slice none 0 0] 26)
  obtain ⟨ka, kcap, rfl, hkl, hkc⟩ := hkp
  by_cases g0 : 400 < keep.length
  · have hO : crashR ss ps keep = ([], []) := by unfold crashR; rw [if_pos g0]
    rw [hO]
    clear hO
    have g0' : (400 : Int) < (keep.length : Int) := by omega
    go_enter Tryz.func67, Tryz.ntmps67
    go_wp2
    exact bodyPost_ret (v := .agg #[.slice none 0 0, .slice none 0 0]) (by simp [results, Tryz.results67, go_sem]) rfl (none_told w _ (T5.k_box w _ _).2.2.1)
  have g0' : ¬ (400 : Int) < (keep.length : Int) := by omega
  by_cases hR : rightB ss ps = false
  · have hO : crashR ss ps keep = (ss, ps) := by unfold crashR; rw [if_neg g0, if_pos hR]
    rw [hO]
    clear hO
    go_enter Tryz.func67, Tryz.ntmps67
    go_wp2_with fail
    refine (right_spec _ _ ss ps _ (hs.below b0) (hp.below b0) hz hzp).mono ?_
    rintro e w1 ⟨rfl, hb1⟩
    have B1 := bel2 b0 hb1
    have k01 := carry k0 hb1
    have k11 := carry k1 hb1
    obtain ⟨q0, q1, -, -⟩ := blk2 k01
    rw [hR]
    go_wp2_with fail
    refine (copy_spec _ _ ss ps _ (hs.below B1) (hp.below B1) m1 m2).mono ?_
    rintro e w2 ⟨f, m, f', m', rfl, ho2, hb2⟩
    obtain ⟨r0, r1, rf, -⟩ := blk2 (carry k11 hb2)
    have HF : Hid (∀ p q, DTold w ss ps (.returned (.agg #[.slice f ss.length m, .slice f' ps.length m'])) (set2 w2 (w.heap.size + 1) p q)) := fin2 (bel2 B1 hb2) ho2 (lt_some k11)
    go_wp2
    exact bodyPost_ret (v := .agg #[.slice f ss.length m, .slice f' ps.length m']) (by simp [results, Tryz.results67, go_sem, r0, r1]) rfl (HF.out _ _)
  have hR1 : rightB ss ps = true := by simpa using hR
  obtain ⟨n1, n2, n3, -, hpr⟩ := (right_iff ss ps).1 hR1
  have hO : crashR ss ps keep = (crashOf ss ps keep, []) := by unfold crashR; rw [if_neg g0, if_neg hR]
  rw [hO]
  clear hO hR
  obtain ⟨i0, hi, hz0, hz1, hz2⟩ := info_parts info_str
  go_enter Tryz.func67, Tryz.ntmps67
  go_wp2_with fail
  refine (right_spec _ _ ss ps _ (hs.below b0) (hp.below b0) hz hzp).mono ?_
  rintro e w1 ⟨rfl, hb1⟩
  have B1 := bel2 b0 hb1
  have k01 := carry k0 hb1
  have k11 := carry k1 hb1
  obtain ⟨q0, q1, -, q9⟩ := blk2 k01
  clear k0 k1 hb1 b0
  rw [hR1]
  have al1 := albel w1 (.cells #[] 9)
  have hsrc := (src_strs (hs.below (bel2 B1 al1))).2
  go_wp2_with (first
    | (at_builtin; refine wpList_copy _ rfl _ _ 23 rfl 9 i0 (.string ⟨#[]⟩) 1 16 Tryz.underlying23 hi hz0 hz1 hz2 rfl (by decide) w1.heap.size w1.heap.size rfl (lit_s _ w1 (Nat.le_refl _)) _ _ _ rfl (cs ss) (cs_length ss) hsrc (one_cs ss) (by unfold maxLen; omega) (by omega) (by simp) ?_; intro a c w2 hown hg))
  have B2 := (bel2 B1 al1).grown hg (by simp; have := B1.size; omega) (fun k h => by cases h; exact B1.size)
  have kb := carryA ((hg.block _ (by simp; omega) (by simp; omega)).trans (carryA k01 (.cells #[] 9))) (.cells #[.slice a ss.length c, .slice none 0 0] 26)
  have kr := carryA ((hg.block _ (by have := lt_some k11; simp; omega) (by have := lt_some k11; simp; omega)).trans (carryA k11 (.cells #[] 9))) (.cells #[.slice a ss.length c, .slice none 0 0] 26)
  have kl := heap_alloc_new w2 (.cells #[.slice a ss.length c, .slice none 0 0] 26)
  have ho : OStrs w1.heap.size (w2.alloc (.cells #[.slice a ss.length c, .slice none 0 0] 26)) (.slice a ss.length c) ss := OStrs.below hown (albel _ _)
  have BW := B2.trans ((albel w2 (.cells #[.slice a ss.length c, .slice none 0 0] 26)).mono B2.size)
  have RR : ∀ g, (Value.slice a ss.length c).ownBlock = some g → w1.heap.size ≤ g ∧ g < w2.heap.size := fun g h => hown.lt g h
  have z1 : w.heap.size + 2 ≤ w1.heap.size := lt_some k11
  generalize hWe : w2.alloc (.cells #[.slice a ss.length c, .slice none 0 0] 26) = W at *
  clear hWe hsrc hown hg al1 q0 q1 q9 k01 k11 B2 z0
  have H0 : Hid (RelC w1.heap.size W a c ss ps keep (.int .i64 0) W) := ⟨0, Nat.zero_le _, rfl, ho, Wrote.refl _ _⟩
  clear ho
  obtain ⟨pa', cap2, e, hl2, hc2⟩ := hp
  simp only [Value.slice.injEq] at e
  obtain ⟨rfl, -, rfl⟩ := e
  go_loopw [6] (fun x wr => RelC w1.heap.size W a c ss ps keep x wr) (fun x _ => ps.length - (intOf x).toNat)
  case atStart => exact H0.out
  case round =>
    clear H0
    obtain ⟨k, hk, rfl, ho, ht⟩ := hrel
    have Bwr : Below w.heap.size w wr := BW.trans (ht.below BW.size (fun g h => by have := RR g h; omega))
    have kbr := carryW kb ht (fun h => by have := RR _ h; omega)
    have klr := carryW kl ht (fun h => by have := RR _ h; omega)
    obtain ⟨q0, q1, -, q9⟩ := blk2 kbr
    obtain ⟨l0, l1, lf, l9⟩ := blk2 klr
    by_cases hlt : k < ps.length
    · have hlt' : (k : Int) < (ps.length : Int) := by omega
      by_cases hkk : k < keep.length
      · have hkk' : (k : Int) < (keep.length : Int) := by omega
        obtain ⟨kb2, koff, rfl, hkb, hkcc⟩ := hkc (by omega)
        obtain ⟨zk, hzk⟩ : ∃ z, keep[k]? = some z := ⟨_, List.getElem?_eq_getElem hkk⟩
        have e0 := hkcc k zk hzk
        rw [← Bwr.cell (p := ⟨kb2, koff + k, none⟩) hkb] at e0
        by_cases hpos : 0 < zk
        · have HY : Hid (keptAt keep k = true) := kept_yes hzk hpos
          obtain ⟨g, rfl, -, hg1, hg2⟩ := form_strs ho (by rw [crashTo_length]; omega)
          have hgr := RR g rfl
          obtain ⟨b2, off2, rfl, hbb2, hcc2⟩ := hc2 (by omega)
          obtain ⟨p, hpk⟩ : ∃ p, ps[k]? = some p := ⟨_, List.getElem?_eq_getElem hlt⟩
          obtain ⟨v0, v1, -⟩ := hpr p (List.mem_of_getElem? hpk)
          obtain ⟨z, d⟩ := p
          dsimp only at v0 v1
          obtain ⟨q, rfl⟩ : ∃ q : Nat, z = q := ⟨z.toNat, by omega⟩
          obtain ⟨d0, d1⟩ := hcc2 k _ hpk
          dsimp only at d0 d1
          rw [← Bwr.cell (p := ⟨b2, off2 + k * 2, none⟩) hbb2] at d0
          rw [← Bwr.cell (p := ⟨b2, off2 + k * 2 + 1, none⟩) hbb2] at d1
          obtain ⟨⟨o, hoo⟩, hfo⟩ := own_cell_s ho q (by rw [crashTo_length]; omega)
          have HN : Hid (RelC w1.heap.size W (some ⟨g, 0, none⟩) c ss ps keep (.int .i64 ((k : Int) + 1)) (wr.setCell ⟨g, q, none⟩ (.string d))) := RelC.put hlt hpk HY.out ho ht
          have x1 : w.heap.size ≠ g := by omega
          have x2 : w2.heap.size ≠ g := by omega
          have x3 : b2 ≠ g := by omega
          clear hpk hcc2 ho ht Bwr kbr klr hkcc hzk
          go_wp2
          go_region_held3 (fun w' => w'.cell? ⟨w.heap.size, 1, none⟩ = some (.slice (some ⟨b2, off2, none⟩) ps.length pc) ∧ w'.cell? ⟨w2.heap.size, 0, none⟩ = some (.slice (some ⟨g, 0, none⟩) ss.length c) ∧ w'.cell? ⟨b2, off2 + k * 2, none⟩ = some (.int .i64 q) ∧ w'.cell? ⟨b2, off2 + k * 2 + 1, none⟩ = some (.string d))
            (first
              | exact ⟨q1, l0, d0, d1⟩
              | exact TB.keepR x1 x2 x3 q1 l0 d0 d1
              | go_keep)
            (fail)
          go_wp2
          go_roundw
          case rel => exact HN.out.drew
          case measure => simp [intOf]; omega
        · have HN : Hid (RelC w1.heap.size W a c ss ps keep (.int .i64 ((k : Int) + 1)) wr) := RelC.skip hlt (kept_no hzk hpos) ho ht
          clear ho ht Bwr kbr klr hkcc hzk
          go_wp2
          go_roundw
          case rel => exact HN.out
          case measure => simp [intOf]; omega
      · have hkk' : ¬ (k : Int) < (keep.length : Int) := by omega
        have HN : Hid (RelC w1.heap.size W a c ss ps keep (.int .i64 ((k : Int) + 1)) wr) := RelC.skip hlt (kept_off hkk) ho ht
        clear ho ht Bwr kbr klr
        go_wp2
        go_roundw
        case rel => exact HN.out
        case measure => simp [intOf]; omega
    · obtain rfl : k = ps.length := by omega
      obtain ⟨r0, r1, rf, -⟩ := blk2 (carryW kr ht (fun h => by have := RR _ h; omega))
      have HF : Hid (∀ p q, DTold w (crashOf ss ps keep) [] (.returned (.agg #[.slice a ss.length c, .slice none 0 0])) (set2 wr (w.heap.size + 1) p q)) := fin2l (crashTo_length _ _ _ _) Bwr ho z1
      clear ho ht Bwr kbr klr
      go_wp2
      exact bodyPost_ret (v := .agg #[.slice a ss.length c, .slice none 0 0]) (by simp [results, Tryz.results67, go_sem, r0, r1]) rfl (HF.out _ _)
end Go.Proofs.YtfiabbfdnmldjaaGreatDoor.TC

/-
  A crash, as the program has it.
-/
namespace Go.Proofs.YtfiabbfdnmldjaaGreatDoor.TD
open Go.RowKit
open Go.Proofs.YtfiabbfdnmldjaaGreatDoor.C0 Go.Proofs.YtfiabbfdnmldjaaGreatDoor.S0 Go.Proofs.YtfiabbfdnmldjaaGreatDoor.S1 Go.Proofs.YtfiabbfdnmldjaaGreatDoor.S2 Go.Proofs.YtfiabbfdnmldjaaGreatDoor.S3 Go.Proofs.YtfiabbfdnmldjaaGreatDoor.S4 Go.Proofs.YtfiabbfdnmldjaaGreatDoor.O1 Go.Proofs.YtfiabbfdnmldjaaGreatDoor.T0 Go.Proofs.YtfiabbfdnmldjaaGreatDoor.T1 Go.Proofs.YtfiabbfdnmldjaaGreatDoor.T2 Go.Proofs.YtfiabbfdnmldjaaGreatDoor.T3 Go.Proofs.YtfiabbfdnmldjaaGreatDoor.T4 Go.Proofs.YtfiabbfdnmldjaaGreatDoor.T6 Go.Proofs.YtfiabbfdnmldjaaGreatDoor.T8 Go.Proofs.YtfiabbfdnmldjaaGreatDoor.TB Go.Proofs.YtfiabbfdnmldjaaGreatDoor.TC
open Go.Proofs.YtfiabbfdnmldjaaGreatDoor.Dk (crashR crashOf crashTo crashTo_length crashTo_kept crashTo_lost keptAt putOne putOne_length rightB right_iff)
def RelV (P m n : Nat) (W : World) (a : Option Addr) (c : Nat) (ss : List ByteArray) (ps : List Pend) (keep : List Int) (x : Value) (wr : World) : Prop :=
  ∃ k : Nat, k ≤ ps.length ∧ x = .int .i64 k ∧ OStrs P wr (.slice a ss.length c) (crashTo ss ps keep k) ∧ MapIs wr m n (fun i => if i < k then none else ps[i]?) ∧ Wrote (two m (.slice a ss.length c)) W wr
theorem upd_next (ps : List Pend) (k i : Nat) : upd (fun i => if i < k then none else ps[i]?) k none i = if i < k + 1 then none else ps[i]? := by
  show (if i = k then none else if i < k then none else ps[i]?) = if i < k + 1 then none else ps[i]?
  by_cases e : i = k
  · subst e; rw [if_pos rfl, if_pos (by omega)]
  · rw [if_neg e]
    by_cases h : i < k
    · rw [if_pos h, if_pos (by omega)]
    · rw [if_neg h, if_neg (by omega)]
theorem RelV.put {P m n k c : Nat} {W wr w2 : World} {a : Option Addr} {ss : List ByteArray} {ps : List Pend} {keep : List Int} {p : Pend} (hk : k < ps.length) (hp : ps[k]? = some p) (hy : keptAt keep k = true) (ho : OStrs P w2 (.slice a ss.length c) (putOne (crashTo ss ps keep k) p)) (hm : MapIs w2 m n (upd (fun i => if i < k then none else ps[i]?) k none))
    (h1 : Wrote (two m (.slice a ss.length c)) W wr) (h2 : Wrote (two m (.slice a ss.length c)) wr w2) : RelV P m n W a c ss ps keep (.int .i64 ((k : Int) + 1)) w2 :=
  ⟨k + 1, by omega, by simp, by rw [crashTo_kept _ _ _ _ _ hp hy]; exact ho, hm.congr (fun i _ => upd_next ps k i), h1.trans h2⟩
theorem RelV.skip {P m n k c : Nat} {W wr w2 : World} {a : Option Addr} {ss : List ByteArray} {ps : List Pend} {keep : List Int} (hk : k < ps.length) (hy : keptAt keep k = false) (ho : OStrs P wr (.slice a ss.length c) (crashTo ss ps keep k)) (hm0 : MapIs wr m n (fun i => if i < k then none else ps[i]?)) (hm : MapIs w2 m n (upd (fun i => if i < k then none else ps[i]?) k none))
    (h1 : Wrote (two m (.slice a ss.length c)) W wr) (hg : wr.grownBy w2 (some m)) : RelV P m n W a c ss ps keep (.int .i64 ((k : Int) + 1)) w2 :=
  ⟨k + 1, by omega, by simp, by rw [crashTo_lost _ _ _ _ hy]; exact own_keep ho fun g h => hg.block g (ho.lt g h).2 (fun e => ne_row hm0 ho (by rw [h]; exact e)), hm.congr (fun i _ => upd_next ps k i),
    h1.trans (Wrote.of_grown hg (fun k' e => .inl (by simpa using e.symm)))⟩
set_option maxRecDepth 100000 in
set_option maxHeartbeats 2400000 in
theorem crash_impl (vs vp vk : Value) (ss : List ByteArray) (ps : List Pend) (keep : List Int) (w : World) (hs : Strs w vs ss) (hp : Pends w vp ps) (hkp : Ints w vk keep) (hz : ∀ s ∈ ss, s.size ≤ maxLen) (hzp : ∀ p ∈ ps, p.2.size ≤ maxLen) (m1 : ss.length ≤ 1048576) (m2 : ps.length ≤ 1048576) :
    Calls Tryz.prog 20 #[.agg #[vs, vp], vk] w fun e w' => DTold w (crashR ss ps keep).1 (crashR ss ps keep).2 e w' := by
  obtain ⟨sa, sc, rfl⟩ : ∃ a c, vs = .slice a ss.length c := hs.len
  obtain ⟨pa, pc, rfl⟩ : ∃ a c, vp = .slice a ps.length c := by obtain ⟨a, c, e, _⟩ := hp; exact ⟨a, c, e⟩
  obtain ⟨k0, k1, b0, z0⟩ := T5.k_box w (.cells #[.slice sa ss.length sc, .slice pa ps.length pc] 26) (.cells #[.slice none 0 0, .slice none 0 0] 26)
  obtain ⟨ka, kcap, rfl, hkl, hkc⟩ := hkp
  by_cases g0 : 400 < keep.length
  · have hO : crashR ss ps keep = ([], []) := by unfold crashR; rw [if_pos g0]
    rw [hO]
    clear hO
    have g0' : (400 : Int) < (keep.length : Int) := by omega
    go_enter Tryz.func20, Tryz.ntmps20
    go_wp2
    exact bodyPost_ret (v := .agg #[.slice none 0 0, .slice none 0 0]) (by simp [results, Tryz.results20, go_sem]) rfl (none_told w _ (T5.k_box w _ _).2.2.1)
  have g0' : ¬ (400 : Int) < (keep.length : Int) := by omega
  by_cases hR : rightB ss ps = false
  · have hO : crashR ss ps keep = (ss, ps) := by unfold crashR; rw [if_neg g0, if_pos hR]
    rw [hO]
    clear hO
    go_enter Tryz.func20, Tryz.ntmps20
    go_wp2_with fail
    refine (right_impl _ _ ss ps _ (hs.below b0) (hp.below b0) hz hzp).mono ?_
    rintro e w1 ⟨rfl, hb1⟩
    have B1 := bel2 b0 hb1
    have k01 := carry k0 hb1
    have k11 := carry k1 hb1
    obtain ⟨q0, q1, -, -⟩ := blk2 k01
    rw [hR]
    go_wp2_with fail
    refine (copied_any _ _ ss ps _ (hs.below B1) (hp.below B1) m1 m2).mono ?_
    rintro e w2 ⟨f, m, f', m', rfl, ho2, hb2⟩
    obtain ⟨r0, r1, rf, -⟩ := blk2 (carry k11 hb2)
    have HF : Hid (∀ p q, DTold w ss ps (.returned (.agg #[.slice f ss.length m, .slice f' ps.length m'])) (set2 w2 (w.heap.size + 1) p q)) := fin2 (bel2 B1 hb2) ho2 (lt_some k11)
    go_wp2
    exact bodyPost_ret (v := .agg #[.slice f ss.length m, .slice f' ps.length m']) (by simp [results, Tryz.results20, go_sem, r0, r1]) rfl (HF.out _ _)
  have hR1 : rightB ss ps = true := by simpa using hR
  obtain ⟨n1, n2, n3, -, hpr⟩ := (right_iff ss ps).1 hR1
  have hO : crashR ss ps keep = (crashOf ss ps keep, []) := by unfold crashR; rw [if_neg g0, if_neg hR]
  rw [hO]
  clear hO hR
  go_enter Tryz.func20, Tryz.ntmps20
  go_wp2_with fail
  refine (right_impl _ _ ss ps _ (hs.below b0) (hp.below b0) hz hzp).mono ?_
  rintro e w1 ⟨rfl, hb1⟩
  have B1 := bel2 b0 hb1
  have k01 := carry k0 hb1
  have k11 := carry k1 hb1
  obtain ⟨q0, q1, -, q9⟩ := blk2 k01
  clear k0 k1 hb1 b0
  rw [hR1]
  go_wp2_with fail
  refine (T7.atWork_any _ _ ss ps _ (hs.below B1) (hp.below B1) n2 n3).mono ?_
  rintro e w2 ⟨a, c, m, n, rfl, o2, m2', hn, hm1, hb2⟩
  have RR : ∀ g, two m (.slice a ss.length c) g → w1.heap.size ≤ g ∧ g < w2.heap.size := fun g h => by
    rcases h with h | h
    · subst h; exact ⟨hm1, m2'.lt⟩
    · exact o2.lt g h
  have B2 := bel2 B1 hb2
  have z1 : w.heap.size + 2 ≤ w1.heap.size := lt_some k11
  have kr := carryA (carry k11 hb2) (.cells #[.slice a ss.length c, .map (some m), .int .i64 (ps.length : Nat)] 85)
  have kl := heap_alloc_new w2 (.cells #[.slice a ss.length c, .map (some m), .int .i64 (ps.length : Nat)] 85)
  have ho := o2.below (albel w2 (.cells #[.slice a ss.length c, .map (some m), .int .i64 (ps.length : Nat)] 85))
  have hm := m2'.alloc (.cells #[.slice a ss.length c, .map (some m), .int .i64 (ps.length : Nat)] 85)
  have BW := bel2 B2 (albel w2 (.cells #[.slice a ss.length c, .map (some m), .int .i64 (ps.length : Nat)] 85))
  have Z2 : Hid (w1.heap.size ≤ w2.heap.size) := hb2.size
  clear q0 q1 q9 k01 k11 hb2 o2 m2' B2 z0
  go_wp2
  generalize hWe : w2.alloc (.cells #[.slice a ss.length c, .map (some m), .int .i64 (ps.length : Nat)] 85) = W at *
  clear hWe
  have H0 : Hid (RelV w1.heap.size m n W a c ss ps keep (.int .i64 0) W) := ⟨0, Nat.zero_le _, rfl, ho, hm.congr (fun i _ => by simp), Wrote.refl _ _⟩
  clear ho hm
  go_loopw [20] (fun x wr => RelV w1.heap.size m n W a c ss ps keep x wr) (fun x _ => ps.length - (intOf x).toNat)
  case atStart => exact H0.out
  case round =>
    clear H0
    obtain ⟨k, hk, rfl, ho, hm, ht⟩ := hrel
    have Bwr : Below w.heap.size w wr := BW.trans (ht.below BW.size (fun g h => by have := RR g h; omega))
    have klr := carryW kl ht (fun h => by have := RR _ h; omega)
    have krr := carryW kr ht (fun h => by have := RR _ h; omega)
    obtain ⟨l0, l1, l2, lf, l9⟩ := blk3 klr
    by_cases hlt : k < ps.length
    · have hlt' : (k : Int) < (ps.length : Int) := by omega
      obtain ⟨w4, hdel, hm4, hg4⟩ := hm.drop k (by omega) 0
      by_cases hkk : k < keep.length
      · have hkk' : (k : Int) < (keep.length : Int) := by omega
        obtain ⟨kb2, koff, rfl, hkb, hkcc⟩ := hkc (by omega)
        obtain ⟨zk, hzk⟩ : ∃ z, keep[k]? = some z := ⟨_, List.getElem?_eq_getElem hkk⟩
        have e0 := hkcc k zk hzk
        rw [← Bwr.cell (p := ⟨kb2, koff + k, none⟩) hkb] at e0
        by_cases hpos : 0 < zk
        · have HY : Hid (keptAt keep k = true) := kept_yes hzk hpos
          obtain ⟨p, hpk⟩ : ∃ p, ps[k]? = some p := ⟨_, List.getElem?_eq_getElem hlt⟩
          obtain ⟨v0, v1, -⟩ := hpr p (List.mem_of_getElem? hpk)
          have HC : Hid (∀ x, Calls Tryz.prog 55 #[.agg #[.slice a ss.length c, .map (some m), x], .int .i64 k] wr fun e w' => e = .returned (.tuple #[]) ∧ RelV w1.heap.size m n W a c ss ps keep (.int .i64 ((k : Int) + 1)) w') := fun x =>
            (flush_len w1.heap.size a c m n k ss.length _ _ p x wr (crashTo_length _ _ _ _) ho hm (by show (if k < k then none else ps[k]?) = some p; rw [if_neg (by omega), hpk]) (by omega) v0 v1 n2).mono (fun e w' h => ⟨h.1, RelV.put hlt hpk HY.out h.2.1 h.2.2.1 ht h.2.2.2⟩)
          clear hpk ho hm ht Bwr klr krr v0 v1 hdel hm4 hg4 hkcc hzk
          go_wp2_with fail
          refine (HC.out _).mono ?_
          rintro e w3 ⟨rfl, HN⟩
          go_wp2
          go_roundw
          case rel => exact HN
          case measure => simp [intOf]; omega
        · have HN : Hid (RelV w1.heap.size m n W a c ss ps keep (.int .i64 ((k : Int) + 1)) w4) := RelV.skip hlt (kept_no hzk hpos) ho hm hm4 ht hg4
          clear ho ht Bwr klr krr hm hm4 hg4 hkcc hzk
          go_wp2
          go_roundw
          case rel => exact HN.out
          case measure => simp [intOf]; omega
      · have hkk' : ¬ (k : Int) < (keep.length : Int) := by omega
        have HN : Hid (RelV w1.heap.size m n W a c ss ps keep (.int .i64 ((k : Int) + 1)) w4) := RelV.skip hlt (kept_off hkk) ho hm hm4 ht hg4
        clear ho ht Bwr klr krr hm hm4 hg4
        go_wp2
        go_roundw
        case rel => exact HN.out
        case measure => simp [intOf]; omega
    · obtain rfl : k = ps.length := by omega
      have HD : Hid (∀ i, i < ps.length → (fun i => if i < ps.length then none else ps[i]?) i = none) := fun i hi => by show (if i < ps.length then none else ps[i]?) = none; rw [if_pos hi]
      go_wp2_with fail
      refine (disk_any a ss.length c m n ps.length _ _ hm HD.out n3).mono ?_
      rintro e w3 ⟨rfl, hb3⟩
      obtain ⟨r0, r1, rf, -⟩ := blk2 (carry krr hb3)
      have HF : Hid (∀ p q, DTold w (crashOf ss ps keep) [] (.returned (.agg #[.slice a ss.length c, .slice none 0 0])) (set2 w3 (w.heap.size + 1) p q)) := fin2l (crashTo_length _ _ _ _) (bel2 Bwr hb3) (ho.below hb3) z1
      clear ho ht Bwr klr krr hm HD
      go_wp2
      exact bodyPost_ret (v := .agg #[.slice a ss.length c, .slice none 0 0]) (by simp [results, Tryz.results20, go_sem, r0, r1]) rfl (HF.out _ _)
end Go.Proofs.YtfiabbfdnmldjaaGreatDoor.TD

/-
  Rows of numbers: the laws' own copying, comparing and marking of them.
-/
namespace Go.Proofs.YtfiabbfdnmldjaaGreatDoor.S7
open Go.RowKit
open Go.Proofs.YtfiabbfdnmldjaaGreatDoor.C0 Go.Proofs.YtfiabbfdnmldjaaGreatDoor.S0 Go.Proofs.YtfiabbfdnmldjaaGreatDoor.S1 Go.Proofs.YtfiabbfdnmldjaaGreatDoor.S3 Go.Proofs.YtfiabbfdnmldjaaGreatDoor.S4 Go.Proofs.YtfiabbfdnmldjaaGreatDoor.O1 Go.Proofs.YtfiabbfdnmldjaaGreatDoor.TC
theorem info_i64 : (Tryz.prog.info? 2).map (fun i => (i.zero, i.size, i.bytes)) = some (some (.int .i64 0), 1, 8) := by kernel_rfl
def ci (l : List Int) : List Value := l.map (.int .i64)
theorem ci_length (l : List Int) : (ci l).length = l.length * 1 := by simp [ci]
def OInts (B : Nat) (w : World) (v : Value) (l : List Int) : Prop := w.ownsRow B 2 1 v l.length (ci l)
theorem OInts.ints {B : Nat} {w : World} {v : Value} {l : List Int} (h : OInts B w v l) : Ints w v l := by
  have h' := h
  rcases h.2 with ⟨rfl, h0⟩ | ⟨g, cap, cur, rfl, hb, hg, hnc, hcm, hcs, htake⟩
  · exact ⟨none, 0, by rw [h0], by rw [h0]; exact Nat.zero_le _, fun q => by omega⟩
  · refine ⟨_, cap, rfl, by omega, fun _ => ⟨g, 0, rfl, (Array.getElem?_eq_some_iff.1 hg).1, fun i s hs => ?_⟩⟩
    have := World.ownsRow.cells h' rfl i (.int .i64 s) (by simp [ci, hs])
    rwa [add0] at this
theorem OInts.below {B : Nat} {w w' : World} {v : Value} {l : List Int} (h : OInts B w v l) (hb : Below w.heap.size w w') : OInts B w' v l :=
  own_keep h fun g hg => hb.block g (h.lt g hg).2
theorem OInts.touch {S : Nat → Prop} {B : Nat} {w w' : World} {v : Value} {l : List Int} (h : OInts B w v l) (ht : Wrote S w w') (hS : ∀ g, v.ownBlock = some g → ¬ S g) : OInts B w' v l :=
  own_keep h fun g hg => ht.block g (h.lt g hg).2 (hS g hg)
theorem oints_of_row {B b : Nat} {w : World} {l : List Int} {f : Nat → Value} (h : w.rowIs b 2 l.length f) (hf : ∀ i s, l[i]? = some s → f i = .int .i64 s) (hB : B ≤ b) (hm : l.length ≤ maxLen) :
    OInts B w (.slice (some ⟨b, 0, none⟩) l.length l.length) l := by
  obtain ⟨c, hb, hn, hc⟩ := h
  refine ⟨ci_length l, .inr ⟨b, l.length, c, rfl, hB, hb, Nat.le_refl _, hm, by omega, ?_⟩⟩
  apply List.ext_getElem?
  intro i
  rw [List.getElem?_take]
  by_cases hi : i < l.length
  · obtain ⟨s, hs⟩ : ∃ s, l[i]? = some s := ⟨_, List.getElem?_eq_getElem hi⟩
    rw [if_pos (by omega)]
    have := hc i hi
    rw [hf i s hs] at this
    simp [ci, hs] at this ⊢
    exact this
  · rw [if_neg (by omega), List.getElem?_eq_none (by rw [ci_length]; omega)]
end Go.Proofs.YtfiabbfdnmldjaaGreatDoor.S7

/-
  The law's own comparing of disks, at disks that read alike: yes.
-/
namespace Go.Proofs.YtfiabbfdnmldjaaGreatDoor.S8
open Go.RowKit
open Go.Proofs.YtfiabbfdnmldjaaGreatDoor.C0 Go.Proofs.YtfiabbfdnmldjaaGreatDoor.S0 Go.Proofs.YtfiabbfdnmldjaaGreatDoor.S1 Go.Proofs.YtfiabbfdnmldjaaGreatDoor.S3 Go.Proofs.YtfiabbfdnmldjaaGreatDoor.T0
open Go.Proofs.YtfiabbfdnmldjaaGreatDoor.Dk (rightB)
set_option maxRecDepth 100000 in
set_option maxHeartbeats 800000 in
theorem lwTexts_any (v u : Value) (l : List ByteArray) (w : World) (hv : Strs w v l) (hu : Strs w u l) :
    Calls Tryz.prog 53 #[v, u] w fun e w' => e = .returned (.bool true) ∧ Below w.heap.size w w' := by
  obtain ⟨a, cap, rfl, hl, hc⟩ := hv
  obtain ⟨a2, cap2, rfl, _, hc2⟩ := hu
  unfold maxLen at hl
  have H0 : Hid (RelK l.length w (.int .i64 0) w) := ⟨0, Nat.zero_le _, rfl, Below.refl _ _⟩
  go_enter Tryz.func53, Tryz.ntmps53
  go_wp2
  go_loopw [5] (fun i wr => RelK l.length w i wr) (fun i _ => l.length - (intOf i).toNat)
  case atStart => exact H0.out
  case round =>
    clear H0
    obtain ⟨k, hk, rfl, hbel⟩ := hrel
    by_cases hlt : k < l.length
    · obtain ⟨b, off, rfl, hbb, hcc⟩ := hc (by omega)
      obtain ⟨b2, off2, rfl, hbb2, hcc2⟩ := hc2 (by omega)
      obtain ⟨s, hs⟩ : ∃ s, l[k]? = some s := ⟨_, List.getElem?_eq_getElem hlt⟩
      have c0 := hcc k s hs
      have c1 := hcc2 k s hs
      rw [← hbel.cell (p := ⟨b, off + k, none⟩) hbb] at c0
      rw [← hbel.cell (p := ⟨b2, off2 + k, none⟩) hbb2] at c1
      have hlt' : (k : Int) < (l.length : Int) := by omega
      clear hs hcc hcc2
      have HB : Hid (Below w.heap.size w wr) := hbel
      clear hbel
      go_wp2
      go_quiet (fail)
      go_wp2
      go_roundw
      case rel => exact ⟨k + 1, by omega, by go_num, drewN_below HB.out _⟩
      case measure => simp [intOf]; omega
    · go_wp2
      go_ret
      exact ⟨rfl, hbel⟩
def RelL (n : Nat) (W : World) (i : Value) (wr : World) : Prop := ∃ k : Nat, k ≤ n ∧ i = .int .i64 k ∧ Below W.heap.size W wr
set_option maxRecDepth 100000 in
set_option maxHeartbeats 1600000 in
theorem lwDisk_any (vs vp us up : Value) (ss : List ByteArray) (ps : List Pend) (w : World) (h1 : Strs w vs ss) (h2 : Pends w vp ps) (h3 : Strs w us ss) (h4 : Pends w up ps) :
    Calls Tryz.prog 19 #[.agg #[vs, vp], .agg #[us, up]] w fun e w' => e = .returned (.bool true) ∧ Below w.heap.size w w' := by
  obtain ⟨a, cap, rfl, hl, hc⟩ := h2
  obtain ⟨a2, cap2, rfl, _, hc2⟩ := h4
  unfold maxLen at hl
  have b0 : Below w.heap.size w ((w.alloc (.cells #[vs, .slice a ps.length cap] 26)).alloc (.cells #[us, .slice a2 ps.length cap2] 26)) := ((Below.refl _ _).alloc (Nat.le_refl _) _).alloc (by simp) _
  go_enter Tryz.func19, Tryz.ntmps19
  go_wp2_with fail
  refine (lwTexts_any _ _ ss _ (h1.below b0) (h3.below b0)).mono ?_
  rintro e w1 ⟨rfl, hb1⟩
  obtain ⟨k0, k1, z0, B1⟩ := C9.two_laid hb1
  have HB1 : Hid (Below w.heap.size w w1) := B1
  have q0 := (blk2 k0).1
  have q1 := (blk2 k0).2.1
  have q2 := (blk2 k1).1
  have q3 := (blk2 k1).2.1
  have H0 : Hid (RelL ps.length w1 (.int .i64 0) w1) := ⟨0, Nat.zero_le _, rfl, Below.refl _ _⟩
  clear hb1 b0 B1
  go_wp2
  clear q0 q1 q2 q3
  go_loopw [5] (fun i wr => RelL ps.length w1 i wr) (fun i _ => ps.length - (intOf i).toNat)
  case atStart => exact H0.out
  case round =>
    clear H0
    obtain ⟨k, hk, rfl, hB⟩ := hrel
    have e0 := (hB.block _ (by omega)).trans k0
    have e1 := (hB.block _ (by omega)).trans k1
    obtain ⟨q0, q1, -, -⟩ := blk2 e0
    obtain ⟨q2, q3, -, -⟩ := blk2 e1
    have B2 : Below w.heap.size w wr := HB1.out.trans (hB.mono HB1.out.size)
    clear e0 e1
    by_cases hlt : k < ps.length
    · obtain ⟨b, off, rfl, hbb, hcc⟩ := hc (by omega)
      obtain ⟨b2, off2, rfl, hbb2, hcc2⟩ := hc2 (by omega)
      obtain ⟨s, hs⟩ : ∃ s, ps[k]? = some s := ⟨_, List.getElem?_eq_getElem hlt⟩
      obtain ⟨c0, c1⟩ := hcc k s hs
      obtain ⟨c2, c3⟩ := hcc2 k s hs
      rw [← B2.cell (p := ⟨b, off + k * 2, none⟩) hbb] at c0
      rw [← B2.cell (p := ⟨b, off + k * 2 + 1, none⟩) hbb] at c1
      rw [← B2.cell (p := ⟨b2, off2 + k * 2, none⟩) hbb2] at c2
      rw [← B2.cell (p := ⟨b2, off2 + k * 2 + 1, none⟩) hbb2] at c3
      have hlt' : (k : Int) < (ps.length : Int) := by omega
      have HB : Hid (Below w1.heap.size w1 wr) := hB
      clear hs hcc hcc2 hB B2
      go_wp2
      go_quiet (fail)
      go_wp2
      go_roundw
      case rel => exact ⟨k + 1, by omega, by go_num, drewN_below HB.out _⟩
      case measure => simp [intOf]; omega
    · have HB2 : Hid (Below w.heap.size w wr) := B2
      clear hB B2
      go_wp2
      go_ret
      exact ⟨rfl, HB2.out⟩
end Go.Proofs.YtfiabbfdnmldjaaGreatDoor.S8
