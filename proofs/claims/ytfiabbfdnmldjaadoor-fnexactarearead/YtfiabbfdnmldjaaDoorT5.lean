/-
  The specification's reading of a sector.
-/
import Derived.Test.YtfiabbfdnmldjaaDoorT4
namespace Go.Proofs.YtfiabbfdnmldjaaDoor.T5
open Go.RowKit
open Go.Proofs.YtfiabbfdnmldjaaDoor.C0 Go.Proofs.YtfiabbfdnmldjaaDoor.S0 Go.Proofs.YtfiabbfdnmldjaaDoor.S1 Go.Proofs.YtfiabbfdnmldjaaDoor.S2 Go.Proofs.YtfiabbfdnmldjaaDoor.S3 Go.Proofs.YtfiabbfdnmldjaaDoor.O1 Go.Proofs.YtfiabbfdnmldjaaDoor.T0 Go.Proofs.YtfiabbfdnmldjaaDoor.T2 Go.Proofs.YtfiabbfdnmldjaaDoor.T3 Go.Proofs.YtfiabbfdnmldjaaDoor.T4
open Go.Proofs.YtfiabbfdnmldjaaDoor.Dk (Out ill readR readOf readOf_snoc rightB right_iff)
abbrev OT (w : World) (o : Out) (e : Ending) (w' : World) : Prop := OTold w o.ss o.ps o.d o.k e w'
/-- Four cells of one block, stored one by one. -/
abbrev set4 (w : World) (g : Nat) (a b c d : Value) : World := (((w.setCell ⟨g, 0, none⟩ a).setCell ⟨g, 1, none⟩ b).setCell ⟨g, 2, none⟩ c).setCell ⟨g, 3, none⟩ d
theorem odisk_set {B : Nat} {w : World} {vs vp : Value} {ss : List ByteArray} {ps : List Pend} (h : ODisk B w vs vp ss ps) {p : Addr} (hp : p.block < B) (u : Value) : ODisk B (w.setCell p u) vs vp ss ps := ⟨h.1.set hp u, h.2.set hp u⟩
theorem set4_disk {B g : Nat} {w : World} {vs vp : Value} {ss : List ByteArray} {ps : List Pend} (h : ODisk B w vs vp ss ps) (hg : g < B) (a b c d : Value) : ODisk B (set4 w g a b c d) vs vp ss ps :=
  odisk_set (odisk_set (odisk_set (odisk_set h hg _) hg _) hg _) hg _
theorem set4_below {B g : Nat} {a0 w : World} (h : Below B a0 w) (hg : B ≤ g) (a b c d : Value) : Below B a0 (set4 w g a b c d) :=
  (((h.setCell (p := ⟨g, 0, none⟩) hg _).setCell (p := ⟨g, 1, none⟩) hg _).setCell (p := ⟨g, 2, none⟩) hg _).setCell (p := ⟨g, 3, none⟩) hg _
/-- A disk that is told behind a box and a result's block. -/
theorem fin_out {w X : World} {a a' : Option Addr} {c c' B : Nat} {ss : List ByteArray} {ps : List Pend} {d : ByteArray} {k : Int} (h : Below w.heap.size w X) (ho : ODisk B X (.slice a ss.length c) (.slice a' ps.length c') ss ps) (hB : w.heap.size + 2 ≤ B) (p q r s : Value) :
    OTold w ss ps d k (.returned (.agg #[.slice a ss.length c, .slice a' ps.length c', .string d, .int .i64 k])) (set4 X (w.heap.size + 1) p q r s) :=
  ⟨a, c, a', c', rfl, (set4_disk ho (by omega) _ _ _ _).mono (by omega), set4_below h (by omega) _ _ _ _⟩
theorem fin_ill {w X : World} {k : Int} (h : Below w.heap.size w X) (p q r s : Value) :
    OT w (ill k) (.returned (.agg #[.slice none 0 0, .slice none 0 0, .string ⟨#[]⟩, .int .i64 k])) (set4 X (w.heap.size + 1) p q r s) :=
  none_otold w _ k (set4_below h (by omega) _ _ _ _)
theorem k_box (w : World) (x y : Obj) : ((w.alloc x).alloc y).heap[w.heap.size]? = some x ∧ ((w.alloc x).alloc y).heap[w.heap.size + 1]? = some y ∧ Below w.heap.size w ((w.alloc x).alloc y) ∧ ((w.alloc x).alloc y).heap.size = w.heap.size + 2 :=
  ⟨carryA (heap_alloc_new w x) y, by have := heap_alloc_new (w.alloc x) y; rwa [asz] at this, ((Below.refl _ _).alloc (Nat.le_refl _) _).alloc (by simp) _, by simp⟩
def RelR (t : ByteArray) (ps : List Pend) (i : Int) (x j : Value) : Prop := ∃ k : Nat, k ≤ ps.length ∧ j = .int .i64 k ∧ x = .string (readOf t (ps.take k) i)
set_option maxRecDepth 100000 in
set_option maxHeartbeats 1600000 in
theorem read_spec (vs vp : Value) (ss : List ByteArray) (ps : List Pend) (i : Int) (w : World) (hs : Strs w vs ss) (hp : Pends w vp ps) (hz : ∀ s ∈ ss, s.size ≤ maxLen) (hzp : ∀ p ∈ ps, p.2.size ≤ maxLen) (hi1 : -9223372036854775808 ≤ i) (hi2 : i ≤ 9223372036854775807) :
    Calls Tryd.prog 33 #[.agg #[vs, vp], .int .i64 i] w fun e w' => OT w (readR ss ps i) e w' := by
  obtain ⟨sa, sc, rfl⟩ : ∃ a c, vs = .slice a ss.length c := hs.len
  obtain ⟨pa, pc, rfl⟩ : ∃ a c, vp = .slice a ps.length c := by obtain ⟨a, c, e, _⟩ := hp; exact ⟨a, c, e⟩
  obtain ⟨k0, k1, b0, z0⟩ := k_box w (.cells #[.slice sa ss.length sc, .slice pa ps.length pc] 29) (.cells #[.slice none 0 0, .slice none 0 0, .string ⟨#[]⟩, .int .i64 0] 44)
  have hmax : ss.length ≤ maxLen := by obtain ⟨_, _, _, h, _⟩ := hs; exact h
  unfold maxLen at hmax
  by_cases hR : rightB ss ps = false
  · have hO : readR ss ps i = ill 1 := by unfold readR; rw [if_pos hR]
    rw [hO]
    clear hO
    go_enter Tryd.func33, Tryd.ntmps33
    go_wp2_with fail
    refine (right_spec _ _ ss ps _ (hs.below b0) (hp.below b0) hz hzp).mono ?_
    rintro e w1 ⟨rfl, hb1⟩
    have k01 := carry k0 hb1
    have k11 := carry k1 hb1
    have B1 := b0.trans (hb1.mono b0.size)
    have z1 : w.heap.size + 2 ≤ w1.heap.size := by have := hb1.size; omega
    clear k0 k1 hb1 z0 b0
    obtain ⟨q0, q1, -, -⟩ := blk2 k01
    rw [hR]
    go_wp2_with fail
    refine (ill_spec 1 _).mono ?_
    rintro e w2 ⟨rfl, hb2⟩
    obtain ⟨r0, r1, r2, r3, rf, -⟩ := blk4 (carry k11 hb2)
    have HF : Hid (∀ p q r s, OT w (ill 1) (.returned (.agg #[.slice none 0 0, .slice none 0 0, .string ⟨#[]⟩, .int .i64 1])) (set4 w2 (w.heap.size + 1) p q r s)) := fin_ill (B1.trans (hb2.mono B1.size))
    go_wp2
    exact bodyPost_ret (v := .agg #[.slice none 0 0, .slice none 0 0, .string ⟨#[]⟩, .int .i64 1]) (by simp [results, Tryd.results33, go_sem, r0, r1, r2, r3]) rfl (HF.out _ _ _ _)
  have hR1 : rightB ss ps = true := by simpa using hR
  obtain ⟨n1, n2, n3, -, -⟩ := (right_iff ss ps).1 hR1
  by_cases hin : 0 ≤ i ∧ i < ss.length
  case neg =>
    have hO : readR ss ps i = ill 8 := by unfold readR; rw [if_neg hR, if_neg hin]
    rw [hO]
    clear hO
    go_enter Tryd.func33, Tryd.ntmps33
    go_wp2_with fail
    refine (right_spec _ _ ss ps _ (hs.below b0) (hp.below b0) hz hzp).mono ?_
    rintro e w1 ⟨rfl, hb1⟩
    have k01 := carry k0 hb1
    have k11 := carry k1 hb1
    have B1 := b0.trans (hb1.mono b0.size)
    have z1 : w.heap.size + 2 ≤ w1.heap.size := by have := hb1.size; omega
    clear k0 k1 hb1 z0 b0
    obtain ⟨q0, q1, -, -⟩ := blk2 k01
    rw [hR1]
    have HF : Hid (∀ w2, Below w1.heap.size w1 w2 → ∀ p q r s, OT w (ill 8) (.returned (.agg #[.slice none 0 0, .slice none 0 0, .string ⟨#[]⟩, .int .i64 8])) (set4 w2 (w.heap.size + 1) p q r s)) := fun w2 hb2 => fin_ill (B1.trans (hb2.mono B1.size))
    go_wp2_with (first
      | (go_at_call 40; refine (is_no _ _ _ _ (by omega)).mono ?_; rintro e w9 ⟨rfl, rfl⟩)
      | (go_at_call 41; refine (ill_spec 8 _).mono ?_; rintro e w2 ⟨rfl, hb2⟩; obtain ⟨r0, r1, r2, r3, rf, -⟩ := blk4 (carry k11 hb2)))
    exact bodyPost_ret (v := .agg #[.slice none 0 0, .slice none 0 0, .string ⟨#[]⟩, .int .i64 8]) (by simp [results, Tryd.results33, go_sem, r0, r1, r2, r3]) rfl (HF.out _ hb2 _ _ _ _)
  obtain ⟨i0, i1⟩ := hin
  obtain ⟨j, rfl⟩ : ∃ j : Nat, i = j := ⟨i.toNat, by omega⟩
  have hj : j < ss.length := by omega
  obtain ⟨t, ht⟩ : ∃ t, ss[j]? = some t := ⟨_, List.getElem?_eq_getElem hj⟩
  have hO : readR ss ps j = ⟨ss, ps, readOf t ps j, 0⟩ := by
    unfold readR; rw [if_neg hR, if_pos ⟨i0, i1⟩]
    simp [List.getD_eq_getElem?_getD, ht]
  rw [hO]
  clear hO hR
  have HT : Hid (ss[j]? = some t) := ht
  clear ht
  go_enter Tryd.func33, Tryd.ntmps33
  go_wp2_with fail
  refine (right_spec _ _ ss ps _ (hs.below b0) (hp.below b0) hz hzp).mono ?_
  rintro e w1 ⟨rfl, hb1⟩
  have k01 := carry k0 hb1
  have k11 := carry k1 hb1
  have B1 := b0.trans (hb1.mono b0.size)
  have z1 : w.heap.size + 2 ≤ w1.heap.size := by have := hb1.size; omega
  clear k0 k1 hb1 z0 b0
  obtain ⟨q0, q1, -, -⟩ := blk2 k01
  rw [hR1]
  have hs1 := hs.below B1
  obtain ⟨a, cap, e, hl, hc⟩ := hs1
  simp only [Value.slice.injEq] at e
  obtain ⟨rfl, -, rfl⟩ := e
  obtain ⟨b, off, rfl, hbb, hcc⟩ := hc (by omega)
  have c0 := hcc j t HT.out
  have HS := hs.below B1
  obtain ⟨a2, cap2, e, hl2, hc2⟩ := hp.below B1
  simp only [Value.slice.injEq] at e
  obtain ⟨rfl, -, rfl⟩ := e
  clear hcc hc hl
  go_wp2_with (first
    | (go_at_call 40; refine (is_yes _ _ _ _ (by omega) (by omega)).mono ?_; rintro e w9 ⟨rfl, rfl⟩))
  go_loop [5, 6] (fun x k => RelR t ps j x k) (fun _ k => ps.length - (intOf k).toNat)
  case atStart => exact ⟨0, Nat.zero_le _, rfl, rfl⟩
  case round =>
    obtain ⟨k, hk, rfl, rfl⟩ := hrel
    by_cases hlt : k < ps.length
    · have hlt' : (k : Int) < (ps.length : Int) := by omega
      obtain ⟨b2, off2, rfl, hbb2, hcc2⟩ := hc2 (by omega)
      obtain ⟨p, hpk⟩ : ∃ p, ps[k]? = some p := ⟨_, List.getElem?_eq_getElem hlt⟩
      obtain ⟨d0, d1⟩ := hcc2 k p hpk
      have HN : Hid (readOf t (ps.take (k + 1)) j = if p.1 = (j : Int) then p.2 else readOf t (ps.take k) j) := by rw [get_take_succ ps k p hpk, readOf_snoc]; rfl
      clear hpk hcc2
      by_cases he : p.1 = (j : Int)
      · have he' : (p.1 == (j : Int)) = true := by simpa using he
        rw [if_pos he] at HN
        clear he
        go_wp2
        go_round
        case rel => exact ⟨k + 1, by omega, by go_num, by rw [HN.out]⟩
        case measure => simp [intOf]; omega
      · have he' : (p.1 == (j : Int)) = false := by simpa using he
        rw [if_neg he] at HN
        clear he
        go_wp2
        go_round
        case rel => exact ⟨k + 1, by omega, by go_num, by rw [HN.out]⟩
        case measure => simp [intOf]; omega
    · rw [List.take_of_length_le (by omega)]
      go_wp2_with fail
      refine (copy_spec _ _ ss ps _ HS (hp.below B1) (by omega) (by omega)).mono ?_
      rintro e w2 ⟨f, m, f', m', rfl, ho2, hb2⟩
      obtain ⟨r0, r1, r2, r3, rf, -⟩ := blk4 (carry k11 hb2)
      have HF : Hid (∀ p q r s, OTold w ss ps (readOf t ps j) 0 (.returned (.agg #[.slice f ss.length m, .slice f' ps.length m', .string (readOf t ps j), .int .i64 0])) (set4 w2 (w.heap.size + 1) p q r s)) := fin_out (B1.trans (hb2.mono B1.size)) ho2 z1
      go_wp2
      exact bodyPost_ret (v := .agg #[.slice f ss.length m, .slice f' ps.length m', .string (readOf t ps j), .int .i64 0]) (by simp [results, Tryd.results33, go_sem, r0, r1, r2, r3]) rfl (HF.out _ _ _ _)
end Go.Proofs.YtfiabbfdnmldjaaDoor.T5
