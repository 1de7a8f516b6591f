/-
  The program's disk at work: its sectors copied, what is pending in a map by its place.
-/
import Derived.Test.YtfiabbfdnmldjaaDoorT6
import Derived.Test.YtfiabbfdnmldjaaDoorT2
import Derived.Test.YtfiabbfdnmldjaaDoorT3
import Derived.Deep.DeepCutAuto
namespace Go.Proofs.YtfiabbfdnmldjaaDoor.T7
open Go.RowKit
open Go.Proofs.YtfiabbfdnmldjaaDoor.C0 Go.Proofs.YtfiabbfdnmldjaaDoor.S0 Go.Proofs.YtfiabbfdnmldjaaDoor.S1 Go.Proofs.YtfiabbfdnmldjaaDoor.S2 Go.Proofs.YtfiabbfdnmldjaaDoor.S3 Go.Proofs.YtfiabbfdnmldjaaDoor.O1 Go.Proofs.YtfiabbfdnmldjaaDoor.T2 Go.Proofs.YtfiabbfdnmldjaaDoor.T3 Go.Proofs.YtfiabbfdnmldjaaDoor.T6

theorem k_box (w : World) (x y : Obj) : ((w.alloc x).alloc y).heap[w.heap.size]? = some x ∧ ((w.alloc x).alloc y).heap[w.heap.size + 1]? = some y ∧ Below w.heap.size w ((w.alloc x).alloc y) ∧ ((w.alloc x).alloc y).heap.size = w.heap.size + 2 :=
  ⟨carryA (heap_alloc_new w x) y, by have := heap_alloc_new (w.alloc x) y; rwa [asz] at this, ((Below.refl _ _).alloc (Nat.le_refl _) _).alloc (by simp) _, by simp⟩
theorem keepB {W w' : World} {g : Nat} {a b : Value} {T : TypeId} (k0 : W.heap[g]? = some (.cells #[a, b] T)) (h : Below W.heap.size W w') : w'.cell? ⟨g, 0, none⟩ = some a ∧ w'.cell? ⟨g, 1, none⟩ = some b :=
  ⟨(blk2 (carry k0 h)).1, (blk2 (carry k0 h)).2.1⟩
theorem one_in {W wS : World} {o : Obj} (hb : Below (W.alloc o).drew.heap.size (W.alloc o).drew wS) : wS.heap[W.heap.size]? = some o := carry (heap_alloc_new W o) (undrew hb)
theorem two_in {W wS : World} {x y : Obj} (hb : Below ((W.alloc x).alloc y).drew.heap.size ((W.alloc x).alloc y).drew wS) : wS.heap[W.heap.size]? = some x ∧ wS.heap[W.heap.size + 1]? = some y :=
  ⟨carry (k_box W x y).1 (undrew hb), carry (k_box W x y).2.1 (undrew hb)⟩
theorem bset3 {B g : Nat} {a0 w : World} (h : Below B a0 w) (hg : B ≤ g) (a b c : Value) : Below B a0 (((w.setCell ⟨g, 0, none⟩ a).setCell ⟨g, 1, none⟩ b).setCell ⟨g, 2, none⟩ c) :=
  ((h.setCell (p := ⟨g, 0, none⟩) hg _).setCell (p := ⟨g, 1, none⟩) hg _).setCell (p := ⟨g, 2, none⟩) hg _
/-- What is there when the sectors are copied and the map is made. -/
def RW (W : World) (ss : List ByteArray) (n : Nat) (s : Value) (wx : World) : Prop :=
  ∃ (lb mb : Nat) (a : Option Addr) (c : Nat), s = .pointer (some ⟨lb, 0, none⟩) ∧ wx.heap[lb]? = some (.cells #[.slice a ss.length c, .map (some mb), .int .i64 (n : Nat)] 107) ∧
    OStrs W.heap.size wx (.slice a ss.length c) ss ∧ MapIs wx mb 0 (fun _ => none) ∧ Below W.heap.size W wx ∧ W.heap.size ≤ lb ∧ W.heap.size ≤ mb
theorem RW.of {W X : World} {ss : List ByteArray} {n lb mb : Nat} {a : Option Addr} {c : Nat} (hl : X.heap[lb]? = some (.cells #[.slice a ss.length c, .map (some mb), .int .i64 (n : Nat)] 107)) (hm : X.heap[mb]? = some (.map #[] 0)) (ho : OStrs W.heap.size X (.slice a ss.length c) ss)
    (hB : Below W.heap.size W X) (h1 : W.heap.size ≤ lb) (h2 : W.heap.size ≤ mb) : RW W ss n (.pointer (some ⟨lb, 0, none⟩)) X :=
  ⟨lb, mb, a, c, rfl, hl, ho, ⟨.map [], ⟨#[], 0, hm, ⟨by simp, MapKept.stamped_empty 0, by simp⟩, Nat.le_refl _, rfl⟩, fun _ _ => ⟨rfl, fun _ => rfl⟩⟩, hB, h1, h2⟩
theorem set3_at {w : World} {g : Nat} {x y z : Value} {T : TypeId} (h : w.heap[g]? = some (.cells #[x, y, z] T (0, 0))) (a b c : Value) : (((w.setCell ⟨g, 0, none⟩ a).setCell ⟨g, 1, none⟩ b).setCell ⟨g, 2, none⟩ c).heap[g]? = some (.cells #[a, b, c] T (0, 0)) := by
  have h1 := heap_setCell_same w g 0 _ _ a h
  have h2 := heap_setCell_same _ g 1 _ _ b h1
  have h3 := heap_setCell_same _ g 2 _ _ c h2
  simpa using h3
theorem set3_other {w : World} {g k : Nat} {o : Obj} (h : w.heap[k]? = some o) (hne : k ≠ g) (a b c : Value) : (((w.setCell ⟨g, 0, none⟩ a).setCell ⟨g, 1, none⟩ b).setCell ⟨g, 2, none⟩ c).heap[k]? = some o := by
  rw [Below.heap_setCell _ _ _ _ hne, Below.heap_setCell _ _ _ _ hne, Below.heap_setCell _ _ _ _ hne]; exact h
theorem oset3 {B g : Nat} {w : World} {v : Value} {l : List ByteArray} (h : OStrs B w v l) (hg : g < B) (a b c : Value) : OStrs B (((w.setCell ⟨g, 0, none⟩ a).setCell ⟨g, 1, none⟩ b).setCell ⟨g, 2, none⟩ c) v l :=
  ((h.set (p := ⟨g, 0, none⟩) hg a).set (p := ⟨g, 1, none⟩) hg b).set (p := ⟨g, 2, none⟩) hg c
/-- .. and round by round. -/
def RX (W : World) (ss : List ByteArray) (ps : List Pend) (lb mb : Nat) (a : Option Addr) (c : Nat) (i : Value) (wr : World) : Prop :=
  ∃ k : Nat, k ≤ ps.length ∧ i = .int .i64 k ∧ wr.heap[lb]? = some (.cells #[.slice a ss.length c, .map (some mb), .int .i64 (ps.length : Nat)] 107) ∧ OStrs W.heap.size wr (.slice a ss.length c) ss ∧ MapIs wr mb k (fun i => if i < k then ps[i]? else none) ∧ Below W.heap.size W wr
theorem RX.step {W wr w2 : World} {ss : List ByteArray} {ps : List Pend} {lb mb k : Nat} {a : Option Addr} {c : Nat} {p : Pend} {o : Obj} (hk : k < ps.length) (hpk : ps[k]? = some p) (hl : wr.heap[lb]? = some (.cells #[.slice a ss.length c, .map (some mb), .int .i64 (ps.length : Nat)] 107))
    (ho : OStrs W.heap.size wr (.slice a ss.length c) ss) (hW : Below W.heap.size W wr) (hmb : W.heap.size ≤ mb) (hm : MapIs wr mb k (fun i => if i < k then ps[i]? else none)) (hm2 : MapIs w2 mb (k + 1) (upd (fun i => if i < k then ps[i]? else none) k (some p))) (hg : (wr.alloc o).grownBy w2 (some mb)) :
    RX W ss ps lb mb a c (.int .i64 ((k : Int) + 1)) w2 := by
  have hmz := hm.lt
  obtain ⟨D, ⟨es, cl, hmb', _⟩, _⟩ := hm
  have hne : ∀ {g cs T fr}, wr.heap[g]? = some (.cells cs T fr) → g ≠ mb := fun h e => by subst e; rw [h] at hmb'; cases hmb'
  refine ⟨k + 1, by omega, by simp, ?_, ?_, hm2.congr (fun i _ => ?_), ?_⟩
  · rw [hg.block lb (by have := lt_some hl; simp; omega) (fun e => hne hl (by simpa using e))]
    exact carryA hl o
  · refine own_keep ho fun g hgo => ?_
    have hlt := (ho.lt g hgo).2
    rw [hg.block g (by simp; omega) (fun e => ?_)]
    · exact Below.heap_alloc _ _ _ hlt
    · have e' : g = mb := by simpa using e
      rcases ho.2 with ⟨h1, _⟩ | ⟨g', cap, cur, h1, _, hg', _⟩
      · rw [h1] at hgo; simp [Value.ownBlock] at hgo
      · rw [h1] at hgo; simp [Value.ownBlock] at hgo; subst hgo; exact hne hg' e'
  · show (if i = k then some p else if i < k then ps[i]? else none) = if i < k + 1 then ps[i]? else none
    by_cases e : i = k
    · subst e; rw [if_pos rfl, if_pos (by omega), hpk]
    · rw [if_neg e]
      by_cases h : i < k
      · rw [if_pos h, if_pos (by omega)]
      · rw [if_neg h, if_neg (by omega)]
  · exact (balloc hW o).grown hg (by simp; have := hW.size; omega) (fun g e => by cases e; exact hmb)
set_option maxRecDepth 100000 in
set_option maxHeartbeats 4000000 in
theorem atWork_any (vs vp : Value) (ss : List ByteArray) (ps : List Pend) (w : World) (hs : Strs w vs ss) (hp : Pends w vp ps) (hz : ss.length ≤ 64) (hzp : ps.length ≤ 200) :
    Calls Tryd.prog 75 #[.agg #[vs, vp]] w fun e w' => ∃ a c m n, e = .returned (.agg #[.slice a ss.length c, .map (some m), .int .i64 (ps.length : Nat)]) ∧ OStrs w.heap.size w' (.slice a ss.length c) ss ∧ MapIs w' m n (fun i => ps[i]?) ∧ n ≤ 200 ∧ w.heap.size ≤ m ∧ Below w.heap.size w w' := by
  obtain ⟨sa, sc, rfl⟩ : ∃ a c, vs = .slice a ss.length c := hs.len
  obtain ⟨pa, pc, rfl⟩ : ∃ a c, vp = .slice a ps.length c := by obtain ⟨a, c, e, _⟩ := hp; exact ⟨a, c, e⟩
  obtain ⟨k0, k1, b0, e2⟩ := k_box w (.cells #[.slice sa ss.length sc, .slice pa ps.length pc] 29) (.cells #[.slice none 0 0, .map none, .int .i64 0] 107)
  have hmm := @run_makeMap Tryd.prog
  go_enter Tryd.func75, Tryd.ntmps75
  go_wp2_with fail
  obtain ⟨W, hW⟩ : ∃ W, (w.alloc (.cells #[.slice sa ss.length sc, .slice pa ps.length pc] 29)).alloc (.cells #[.slice none 0 0, .map none, .int .i64 0] 107) = W := ⟨_, rfl⟩
  rw [hW] at k0 k1 b0 e2 ⊢
  clear hW
  have hs1 := hs.below b0
  have hp1 := hp.below b0
  obtain ⟨q0, q1, -, q9⟩ := blk2 k0
  have E2 : Hid (W.heap.size = w.heap.size + 2) := e2
  clear e2
  go_cut [3] (fun s3 wx => RW W ss ps.length s3 wx)
  case first =>
    go_region_held3 (fun w' => w'.cell? ⟨w.heap.size, 0, none⟩ = some (.slice sa ss.length sc) ∧ w'.cell? ⟨w.heap.size, 1, none⟩ = some (.slice pa ps.length pc))
      (first
        | exact keepB k0 BS
        | exact keepB k0 (balloc BS _)
        | exact keepB k0 (balloc (balloc BS _) _)
        | exact keepB k0 (bset3 BS (by omega) _ _ _)
        | exact keepB k0 (balloc (bset3 BS (by omega) _ _ _) _)
        | exact keepB k0 (Below.refl _ _).drew
        | exact keepB k0 (balloc (Below.refl _ _) _).drew
        | exact keepB k0 (balloc (balloc (Below.refl _ _) _) _).drew
        | go_keep)
      (first
        | (go_at_call 64
           first
           | (refine (cloneS_any _ ss _ (drewS hs1) (by omega)).mono ?_; rintro e wS ⟨a, c, rfl, hoS, hbS'⟩; have BS : Below W.heap.size W wS := undrew hbS'; have oB : OStrs W.heap.size wS (.slice a ss.length c) ss := hoS)
           | (refine (cloneS_any _ ss _ (hs1.below (balloc (Below.refl _ _) _).drew) (by omega)).mono ?_; rintro e wS ⟨a, c, rfl, hoS, hbS⟩; have BS : Below W.heap.size W wS := bel2 (balloc (Below.refl _ _) _) (undrew hbS); have i1 := one_in hbS; have z1 := lt_some i1; have oB : OStrs (W.heap.size + 1) wS (.slice a ss.length c) ss := hoS.mono (Nat.le_of_eq (asz W _).symm); try (obtain ⟨l0, l1, l2, lf, -⟩ := blk3 i1))
           | (refine (cloneS_any _ ss _ (hs1.below (balloc (balloc (Below.refl _ _) _) _).drew) (by omega)).mono ?_; rintro e wS ⟨a, c, rfl, hoS, hbS⟩; have BS : Below W.heap.size W wS := bel2 (balloc (balloc (Below.refl _ _) _) _) (undrew hbS); obtain ⟨i1, i2⟩ := two_in hbS; have oB : OStrs (W.heap.size + 2) wS (.slice a ss.length c) ss := hoS.mono (Nat.le_of_eq ((k_box W _ _).2.2.2).symm); have z1 := lt_some i1; have z2 := lt_some i2; first | (obtain ⟨l0, l1, l2, lf, -⟩ := blk3 i1) | (obtain ⟨l0, l1, l2, lf, -⟩ := blk3 i2))))
    · have hle := BS.size
      go_wp2_with fail
      go_meet
      case rel => exact RW.of (lb := wS.heap.size + 1) (mb := wS.heap.size) (a := a) (c := c) (alloc_at (by simp)) (carryA (heap_alloc_new wS _) _) (OStrs.below (OStrs.below oB (albel _ _)) (albel _ _)) (balloc (balloc BS _) _) (by omega) (by omega)
    · have hle := BS.size
      go_wp2_with fail
      go_meet
      case rel => exact RW.of (lb := wS.heap.size) (mb := wS.heap.size + 1) (a := a) (c := c) (carryA (heap_alloc_new wS _) _) (alloc_at (by simp)) (OStrs.below (OStrs.below oB (albel _ _)) (albel _ _)) (balloc (balloc BS _) _) (by omega) (by omega)
    · have hle := BS.size
      go_wp2_with fail
      go_meet
      case rel => exact RW.of (lb := wS.heap.size) (mb := W.heap.size) (a := a) (c := c) (heap_alloc_new wS _) (carryA i1 _) (OStrs.mono (OStrs.below oB (albel _ _)) (by omega)) (balloc BS _) (by omega) (by omega)
    · have hle := BS.size
      go_wp2_with fail
      go_meet
      case rel => exact RW.of (lb := W.heap.size + 1) (mb := W.heap.size) (a := a) (c := c) (set3_at i2 _ _ _) (set3_other i1 (by omega) _ _ _) (OStrs.mono (oset3 oB (by omega) _ _ _) (by omega)) (bset3 BS (by omega) _ _ _) (by omega) (by omega)
    · have hle := BS.size
      go_wp2_with fail
      go_meet
      case rel => exact RW.of (lb := W.heap.size) (mb := wS.heap.size) (a := a) (c := c) (carryA (set3_at i1 _ _ _) _) (alloc_at (by simp)) (OStrs.mono (OStrs.below (oset3 oB (by omega) _ _ _) (albel _ _)) (by omega)) (balloc (bset3 BS (by omega) _ _ _) _) (by omega) (by omega)
    · have hle := BS.size
      go_wp2_with fail
      go_meet
      case rel => exact RW.of (lb := W.heap.size) (mb := W.heap.size + 1) (a := a) (c := c) (set3_at i1 _ _ _) (set3_other i2 (by omega) _ _ _) (OStrs.mono (oset3 oB (by omega) _ _ _) (by omega)) (bset3 BS (by omega) _ _ _) (by omega) (by omega)
  case rest =>
    obtain ⟨lb, mb, a, c, rfl, hl, ho, hm, hB, h1, h2⟩ := hcut
    have kr := carry k0 hB
    obtain ⟨s0, s1, -, -⟩ := blk2 kr
    have H0 : Hid (RX W ss ps lb mb a c (.int .i64 0) wc) := ⟨0, Nat.zero_le _, rfl, hl, ho, hm.congr (fun i _ => by simp), hB⟩
    clear q0 q1 hs1 hm hl ho kr
    obtain ⟨pa', cap2, e, hl2, hc2⟩ := hp1
    simp only [Value.slice.injEq] at e
    obtain ⟨rfl, -, rfl⟩ := e
    go_wp2
    clear hmm
    go_loopw [17] (fun i wr => RX W ss ps lb mb a c i wr) (fun i _ => ps.length - (intOf i).toNat)
    case atStart => exact H0.out
    case round =>
      clear H0 hB s0 s1
      obtain ⟨k, hk, rfl, hl, ho, hm, hB⟩ := hrel
      obtain ⟨l0, l1, l2, lf, l9⟩ := blk3 hl
      by_cases hlt : k < ps.length
      · have hlt' : (k : Int) < (ps.length : Int) := by omega
        obtain ⟨b2, off2, rfl, hbb2, hcc2⟩ := hc2 (by omega)
        obtain ⟨p, hpk⟩ : ∃ p, ps[k]? = some p := ⟨_, List.getElem?_eq_getElem hlt⟩
        obtain ⟨d0, d1⟩ := hcc2 k p hpk
        rw [← hB.cell (p := ⟨b2, off2 + k * 2, none⟩) hbb2] at d0
        rw [← hB.cell (p := ⟨b2, off2 + k * 2 + 1, none⟩) hbb2] at d1
        obtain ⟨w2, hr2, hm2, hg2⟩ := (hm.alloc (.cells #[.int .i64 p.1, .string p.2] 73)).store (by omega) k (by omega) p
        have HN : Hid (RX W ss ps lb mb a c (.int .i64 ((k : Int) + 1)) w2) := RX.step hlt hpk hl ho hB h2 hm hm2 hg2
        clear hpk hcc2 hm hm2 hg2 hl ho hB
        go_wp2
        go_roundw
        case rel => exact HN.out
        case measure => simp [intOf]; omega
      · obtain rfl : k = ps.length := by omega
        have kr := carry k1 hB
        obtain ⟨r0, r1, r2, rf, -⟩ := blk3 kr
        have e2 := E2.out
        have HF : Hid (∀ x y z, OStrs w.heap.size (((wr.setCell ⟨w.heap.size + 1, 0, none⟩ x).setCell ⟨w.heap.size + 1, 1, none⟩ y).setCell ⟨w.heap.size + 1, 2, none⟩ z) (.slice a ss.length c) ss ∧ MapIs (((wr.setCell ⟨w.heap.size + 1, 0, none⟩ x).setCell ⟨w.heap.size + 1, 1, none⟩ y).setCell ⟨w.heap.size + 1, 2, none⟩ z) mb ps.length (fun i => ps[i]?) ∧
            Below w.heap.size w (((wr.setCell ⟨w.heap.size + 1, 0, none⟩ x).setCell ⟨w.heap.size + 1, 1, none⟩ y).setCell ⟨w.heap.size + 1, 2, none⟩ z) ∧ w.heap.size ≤ mb) := fun x y z =>
          ⟨(oset3 ho (by omega) x y z).mono (by omega), (((hm.setCell (a := ⟨w.heap.size + 1, 0, none⟩) (by show mb ≠ w.heap.size + 1; omega) x).setCell (a := ⟨w.heap.size + 1, 1, none⟩) (by show mb ≠ w.heap.size + 1; omega) y).setCell (a := ⟨w.heap.size + 1, 2, none⟩) (by show mb ≠ w.heap.size + 1; omega) z).congr (fun i _ => by
              by_cases h : i < ps.length
              · rw [if_pos h]
              · rw [if_neg h, List.getElem?_eq_none (by omega)]), bset3 (b0.trans (hB.mono b0.size)) (by omega) x y z, by omega⟩
        clear e2 hm ho hB kr hl
        go_wp2
        exact bodyPost_ret (v := .agg #[.slice a ss.length c, .map (some mb), .int .i64 (ps.length : Nat)]) (by simp [results, Tryd.results75, go_sem, r0, r1, r2]) rfl ⟨a, c, mb, ps.length, rfl, (HF.out _ _ _).1, (HF.out _ _ _).2.1, hzp, (HF.out (.int .i64 0) (.int .i64 0) (.int .i64 0)).2.2.2, (HF.out _ _ _).2.2.1⟩
end Go.Proofs.YtfiabbfdnmldjaaDoor.T7
