/-
  The laws' own marks in a log, in an answer with a log, in a line: laid, and looked for; answers compared.
-/
import Derived.Test.YtkpjdmmgdmbmnaaDoorIQ
namespace Go.Proofs.YtkpjdmmgdmbmnaaDoor.IT
open Go.RowKit
open Go.Proofs.YtkpjdmmgdmbmnaaDoor.C0 Go.Proofs.YtkpjdmmgdmbmnaaDoor.HB Go.Proofs.YtkpjdmmgdmbmnaaDoor.Mk
open Go.Proofs.YtkpjdmmgdmbmnaaDoor.A0 Go.Proofs.YtkpjdmmgdmbmnaaDoor.A1 Go.Proofs.YtkpjdmmgdmbmnaaDoor.A4 Go.Proofs.YtkpjdmmgdmbmnaaDoor.I1 Go.Proofs.YtkpjdmmgdmbmnaaDoor.IE Go.Proofs.YtkpjdmmgdmbmnaaDoor.IF Go.Proofs.YtkpjdmmgdmbmnaaDoor.IN Go.Proofs.YtkpjdmmgdmbmnaaDoor.IV Go.Proofs.YtkpjdmmgdmbmnaaDoor.IP
open Go.Proofs.YtkpjdmmgdmbmnaaDoor.A6 (OIRow add0)
/-- Lines of one's own, their rows of numbers named. -/
structure OLv (B : Nat) (w : World) (v : Value) (l : List Ln) (vd : Nat → Value) : Prop where
  row : w.ownsRow B 29 4 v l.length (flatL (fun m => (lAt l m, vd m)) l.length)
  nums : ∀ m, m < l.length → OIRow B w (vd m) (lAt l m).cards
  dist : ∀ i j, i < j → j < l.length → ∀ g, (vd i).ownBlock = some g → (vd j).ownBlock ≠ some g
theorem OLv.of {B : Nat} {w : World} {v : Value} {l : List Ln} (h : OLs B w v l) : ∃ vd, OLv B w v l vd := by
  obtain ⟨vd, h1, h2, h3⟩ := h
  exact ⟨vd, h1, h2, h3⟩
theorem OLv.ols {B : Nat} {w : World} {v : Value} {l : List Ln} {vd : Nat → Value} (h : OLv B w v l vd) : OLs B w v l := ⟨vd, h.row, h.nums, h.dist⟩
theorem OLv.lt {B : Nat} {w : World} {v : Value} {l : List Ln} {vd : Nat → Value} (h : OLv B w v l vd) : ∀ g, lines v l.length vd g → B ≤ g ∧ g < w.heap.size := fun g hg => by
  rcases hg with hg | ⟨m, hm, hg⟩
  · exact h.row.lt g hg
  · exact (h.nums m hm).lt g hg
theorem OLv.wrote {S : Nat → Prop} {B : Nat} {w w' : World} {v : Value} {l : List Ln} {vd : Nat → Value} (h : OLv B w v l vd) (ht : Wrote S w w') (hS : ∀ g, lines v l.length vd g → ¬ S g) : OLv B w' v l vd :=
  ⟨own_wrote h.row ht fun g hg => hS g (.inl hg), fun m hm => own_wrote (h.nums m hm) ht fun g hg => hS g (.inr ⟨m, hm, hg⟩), h.dist⟩
theorem OLv.below {B : Nat} {w w' : World} {v : Value} {l : List Ln} {vd : Nat → Value} (h : OLv B w v l vd) (hb : Below w.heap.size w w') : OLv B w' v l vd :=
  ⟨NU.own_below h.row hb, fun m hm => (h.nums m hm).below hb, h.dist⟩
/-- Lines and texts lie in blocks of different kinds. -/
theorem OLv.apart {B C : Nat} {w : World} {v u : Value} {l : List Ln} {vd : Nat → Value} {ks : List ByteArray} (h : OLv B w v l vd) (hk : OT C w u ks) : ∀ g, u.ownBlock = some g → ¬ lines v l.length vd g := fun g hg hl => by
  obtain ⟨cs, hc⟩ := own_block hk hg
  rcases hl with hl | ⟨m, hm, hl⟩
  · exact own_ne h.row hc (by decide) g hl rfl
  · exact own_ne (h.nums m hm) hc (by decide) g hl rfl
theorem upS_le {l : List Ln} {k : Nat} (h : k < 1000) (hl : l.length ≤ 1048576) (hcz : ∀ x ∈ l, x.cards.length ≤ 1048576) : upK l k l.length < 10000000000000 := by
  have := upK_le l k hcz l.length (Nat.le_refl _)
  omega
/-- The number behind a log's marks. -/
def endK (ls : List Ln) (ks : List ByteArray) (k : Nat) : Nat := upK ls k ls.length + ks.length
/-- The blocks of a log. -/
def logs (ul uk : Value) (n : Nat) (vd : Nat → Value) : Nat → Prop := fun g => lines ul n vd g ∨ uk.ownBlock = some g
set_option maxRecDepth 100000 in
set_option maxHeartbeats 1600000 in
theorem markAudit_any (B k : Nat) (ul uk : Value) (ls : List Ln) (ks : List ByteArray) (vd : Nat → Value) (w : World) (hv : OLv B w ul ls vd) (hu : OT B w uk ks) (h1 : 0 < k) (h2 : k < 1000) (hl : ls.length ≤ 1048576) (hcz : ∀ x ∈ ls, x.cards.length ≤ 1048576) (hk : ks.length ≤ 1048576) :
    Calls Tryd.prog 32 #[.agg #[ul, uk], .int .i64 k] w fun e w' => e = .returned (.int .i64 (endK ls ks k : Nat)) ∧ OLv B w' ul (mkL ls k) vd ∧ OT B w' uk (mkS (upK ls k ls.length) ks.length) ∧ Wrote (logs ul uk ls.length vd) w w' := by
  have hup := upS_le h2 hl hcz
  have hge := upK_ge ls k ls.length
  have HL : Hid (∀ W, Below w.heap.size w W → Calls Tryd.prog 72 #[ul, .int .i64 k] W fun e w' => e = .returned (.int .i64 (upK ls k ls.length : Nat)) ∧ OLv B w' ul (mkL ls k) vd ∧ OT B w' uk ks ∧ Wrote (lines ul ls.length vd) W w') := fun W hW => by
    have hW1 := hv.below hW
    have hW2 : OT B W uk ks := hu.below hW
    refine (markLines_any B k ul ls vd W hW1.row hW1.nums hW1.dist h1 (by omega) hl hcz).mono ?_
    rintro e w' ⟨rfl, a1, a2, a3⟩
    refine ⟨rfl, ⟨?_, fun m hm => ?_, fun i j hij hj => ?_⟩, own_wrote hW2 a3 (hW1.apart hW2), a3⟩
    · rw [mkL_length]
      rwa [flat_ext _ (fun m => (lAt (mkL ls k) m, vd m)) _ fun m hm => by rw [lAt_mkL _ _ _ hm]] at a1
    · rw [mkL_length] at hm
      rw [lAt_mkL _ _ _ hm]; exact a2 m hm
    · rw [mkL_length] at hj
      exact hW1.dist i j hij hj
  have HS : Hid (∀ W, OLv B W ul (mkL ls k) vd → OT B W uk ks → Calls Tryd.prog 73 #[uk, .int .i64 (upK ls k ls.length : Nat)] W fun e w' => e = .returned (.int .i64 (endK ls ks k : Nat)) ∧ OLv B w' ul (mkL ls k) vd ∧ OT B w' uk (mkS (upK ls k ls.length) ks.length) ∧ Wrote (mine uk) W w') := fun W hW1 hW2 => by
    refine (markStrs_any B (upK ls k ls.length) uk ks W hW2 (by omega) (by omega)).mono ?_
    rintro e w' ⟨rfl, a1, a2⟩
    exact ⟨rfl, hW1.wrote a2 fun g hg hm => hW1.apart hW2 g hm hg, a1, a2⟩
  obtain ⟨a, cap, rfl⟩ := slice_own hv.row
  obtain ⟨a2, cap2, rfl⟩ := slice_own hu
  have HZ : Hid (∀ g, lines (.slice a ls.length cap) ls.length vd g → g < w.heap.size) := fun g hg => (hv.lt g hg).2
  have k0 := heap_alloc_new w (.cells #[.slice a ls.length cap, .slice a2 ks.length cap2] 26)
  have B0 : Hid (Below w.heap.size w (w.alloc (.cells #[.slice a ls.length cap, .slice a2 ks.length cap2] 26))) := albel w _
  clear hv hu hcz
  generalize upK ls k ls.length = y at *
  generalize endK ls ks k = z at *
  go_enter Tryd.func32, Tryd.ntmps32
  go_wp2_with fail
  refine (HL.out _ B0.out).mono ?_
  rintro e w1 ⟨rfl, hv1, hu1, ht1⟩
  have k1 := (ht1.block w.heap.size (by simp) (fun hg => by have := HZ.out _ hg; omega)).trans k0
  have V1 : Hid (OLv B w1 (.slice a ls.length cap) (mkL ls k) vd) := hv1
  have U1 : Hid (OT B w1 (.slice a2 ks.length cap2) ks) := hu1
  have T1 : Hid (Wrote (logs (.slice a ls.length cap) (.slice a2 ks.length cap2) ls.length vd) w w1) := (Wrote.of_below B0.out).trans (ht1.mono fun g hg => .inl hg)
  have r0 := block_cell k1 0
  have r1 := block_cell k1 1
  clear hv1 hu1 ht1 k0 k1 B0 HL HZ
  go_wp2_with fail
  refine (HS.out _ V1.out U1.out).mono ?_
  rintro e w2 ⟨rfl, hv2, hu2, ht2⟩
  have HF : Hid (OLv B w2 (.slice a ls.length cap) (mkL ls k) vd ∧ OT B w2 (.slice a2 ks.length cap2) (mkS y ks.length) ∧ Wrote (logs (.slice a ls.length cap) (.slice a2 ks.length cap2) ls.length vd) w w2) := ⟨hv2, hu2, T1.out.trans (ht2.mono fun g hg => .inr hg)⟩
  clear hv2 hu2 ht2 HS V1 U1 T1 r0 r1
  go_wp2
  go_ret
  exact ⟨rfl, HF.out.1, HF.out.2.1, HF.out.2.2⟩
set_option maxRecDepth 100000 in
set_option maxHeartbeats 1600000 in
theorem heldAudit_any (k : Nat) (ul uk : Value) (ls : List Ln) (ks : List ByteArray) (w : World) (hv : LRow w ul (mkL ls k)) (hu : SRow w uk (mkS (upK ls k ls.length) ks.length)) (h1 : 0 < k) (h2 : k < 1000) (hl : ls.length ≤ 1048576) (hcz : ∀ x ∈ ls, x.cards.length ≤ 1048576) (hk : ks.length ≤ 1048576) :
    Calls Tryd.prog 75 #[.agg #[ul, uk], .int .i64 k] w fun e w' => e = .returned (.int .i64 (endK ls ks k : Nat)) ∧ Below w.heap.size w w' := by
  have hup := upS_le h2 hl hcz
  have hge := upK_ge ls k ls.length
  have HL : Hid (∀ W, Below w.heap.size w W → Calls Tryd.prog 93 #[ul, .int .i64 k] W fun e w' => e = .returned (.int .i64 (upK ls k ls.length : Nat)) ∧ Below W.heap.size W w') := fun W hW => heldLines_any k ul ls W (hv.below hW) h1 (by omega) hl hcz
  have HS : Hid (∀ W, Below w.heap.size w W → Calls Tryd.prog 94 #[uk, .int .i64 (upK ls k ls.length : Nat)] W fun e w' => e = .returned (.int .i64 (endK ls ks k : Nat)) ∧ Below W.heap.size W w') := fun W hW => heldStrs_any _ _ uk W (hu.below hW) (by omega) (by omega)
  have hy0 : ¬ ((upK ls k ls.length : Nat) : Int) < 0 := by omega
  have hz0 : ¬ ((endK ls ks k : Nat) : Int) < 0 := by omega
  obtain ⟨a, cap, rfl, _, _⟩ := hv
  obtain ⟨a2, cap2, rfl, _, _⟩ := hu
  have k0 := heap_alloc_new w (.cells #[.slice a (mkL ls k).length cap, .slice a2 (mkS (upK ls k ls.length) ks.length).length cap2] 26)
  have B0 : Hid (Below w.heap.size w (w.alloc (.cells #[.slice a (mkL ls k).length cap, .slice a2 (mkS (upK ls k ls.length) ks.length).length cap2] 26))) := albel w _
  clear hcz
  generalize (mkS (upK ls k ls.length) ks.length).length = n2 at *
  generalize (mkL ls k).length = n1 at *
  generalize upK ls k ls.length = y at *
  generalize endK ls ks k = z at *
  go_enter Tryd.func75, Tryd.ntmps75
  go_wp2_with fail
  refine (HL.out _ B0.out).mono ?_
  rintro e w1 ⟨rfl, hb⟩
  have k1 := carry k0 hb
  have B1 : Hid (Below w.heap.size w w1) := bel2 B0.out hb
  have r0 := block_cell k1 0
  have r1 := block_cell k1 1
  clear hb k0 k1 B0 HL
  go_wp2_with fail
  refine (HS.out _ B1.out).mono ?_
  rintro e w2 ⟨rfl, hb⟩
  have B2 : Hid (Below w.heap.size w w2) := bel2 B1.out hb
  clear hb HS B1
  go_wp2
  go_ret
  exact ⟨rfl, B2.out⟩
set_option maxRecDepth 100000 in
set_option maxHeartbeats 1600000 in
theorem markOut_any (B k : Nat) (ul uk : Value) (c : Int) (ls : List Ln) (ks : List ByteArray) (vd : Nat → Value) (w : World) (hv : OLv B w ul ls vd) (hu : OT B w uk ks) (h1 : 0 < k) (h2 : k < 1000) (hl : ls.length ≤ 1048576) (hcz : ∀ x ∈ ls, x.cards.length ≤ 1048576) (hk : ks.length ≤ 1048576) :
    Calls Tryd.prog 34 #[.agg #[ul, uk, .int .i64 c], .int .i64 k] w fun e w' => e = .returned (.int .i64 (endK ls ks k : Nat)) ∧ OLv B w' ul (mkL ls k) vd ∧ OT B w' uk (mkS (upK ls k ls.length) ks.length) ∧ Wrote (logs ul uk ls.length vd) w w' := by
  have HL : Hid (∀ W, Below w.heap.size w W → Calls Tryd.prog 32 #[.agg #[ul, uk], .int .i64 k] W fun e w' => e = .returned (.int .i64 (endK ls ks k : Nat)) ∧ OLv B w' ul (mkL ls k) vd ∧ OT B w' uk (mkS (upK ls k ls.length) ks.length) ∧ Wrote (logs ul uk ls.length vd) W w') := fun W hW => markAudit_any B k ul uk ls ks vd W (hv.below hW) (hu.below hW) h1 h2 hl hcz hk
  obtain ⟨a, cap, rfl⟩ := slice_own hv.row
  obtain ⟨a2, cap2, rfl⟩ := slice_own hu
  have B0 : Hid (Below w.heap.size w (w.alloc (.cells #[.slice a ls.length cap, .slice a2 ks.length cap2, .int .i64 c] 33))) := albel w _
  have k0 := heap_alloc_new w (.cells #[.slice a ls.length cap, .slice a2 ks.length cap2, .int .i64 c] 33)
  have r0 := block_cell k0 0
  have r1 := block_cell k0 1
  clear hv hu hcz k0
  generalize upK ls k ls.length = y at *
  generalize endK ls ks k = z at *
  go_enter Tryd.func34, Tryd.ntmps34
  go_wp2_with fail
  refine (HL.out _ B0.out).mono ?_
  rintro e w1 ⟨rfl, hv1, hu1, ht1⟩
  have HF : Hid (OLv B w1 (.slice a ls.length cap) (mkL ls k) vd ∧ OT B w1 (.slice a2 ks.length cap2) (mkS y ks.length) ∧ Wrote (logs (.slice a ls.length cap) (.slice a2 ks.length cap2) ls.length vd) w w1) := ⟨hv1, hu1, (Wrote.of_below B0.out).trans ht1⟩
  clear hv1 hu1 ht1 HL B0
  go_wp2
  go_ret
  exact ⟨rfl, HF.out.1, HF.out.2.1, HF.out.2.2⟩
set_option maxRecDepth 100000 in
set_option maxHeartbeats 1600000 in
theorem heldOut_any (k : Nat) (ul uk : Value) (c : Int) (ls : List Ln) (ks : List ByteArray) (w : World) (hv : LRow w ul (mkL ls k)) (hu : SRow w uk (mkS (upK ls k ls.length) ks.length)) (h1 : 0 < k) (h2 : k < 1000) (hl : ls.length ≤ 1048576) (hcz : ∀ x ∈ ls, x.cards.length ≤ 1048576) (hk : ks.length ≤ 1048576) :
    Calls Tryd.prog 35 #[.agg #[ul, uk, .int .i64 c], .int .i64 k] w fun e w' => e = .returned (.int .i64 (endK ls ks k : Nat)) ∧ Below w.heap.size w w' := by
  have HL : Hid (∀ W, Below w.heap.size w W → Calls Tryd.prog 75 #[.agg #[ul, uk], .int .i64 k] W fun e w' => e = .returned (.int .i64 (endK ls ks k : Nat)) ∧ Below W.heap.size W w') := fun W hW => heldAudit_any k ul uk ls ks W (hv.below hW) (hu.below hW) h1 h2 hl hcz hk
  have hz0 : ¬ ((endK ls ks k : Nat) : Int) < 0 := by omega
  obtain ⟨a, cap, rfl, _, _⟩ := hv
  obtain ⟨a2, cap2, rfl, _, _⟩ := hu
  generalize (mkS (upK ls k ls.length) ks.length).length = n2 at *
  generalize (mkL ls k).length = n1 at *
  have B0 : Hid (Below w.heap.size w (w.alloc (.cells #[.slice a n1 cap, .slice a2 n2 cap2, .int .i64 c] 33))) := albel w _
  have k0 := heap_alloc_new w (.cells #[.slice a n1 cap, .slice a2 n2 cap2, .int .i64 c] 33)
  have r0 := block_cell k0 0
  have r1 := block_cell k0 1
  clear hcz k0
  generalize endK ls ks k = z at *
  go_enter Tryd.func35, Tryd.ntmps35
  go_wp2_with fail
  refine (HL.out _ B0.out).mono ?_
  rintro e w1 ⟨rfl, hb⟩
  have B1 : Hid (Below w.heap.size w w1) := bel2 B0.out hb
  clear hb HL B0
  go_wp2
  go_ret
  exact ⟨rfl, B1.out⟩
set_option maxRecDepth 100000 in
set_option maxHeartbeats 800000 in
theorem markLine_any (B k : Nat) (x : Ln) (vd : Value) (w : World) (hv : OIRow B w vd x.cards) (h1 : 0 < k) (h2 : k < 100000000000000000) (hl : x.cards.length ≤ 1048576) :
    Calls Tryd.prog 33 #[lnV x vd, .int .i64 k] w fun e w' => e = .returned (.int .i64 ((k + x.cards.length : Nat) : Int)) ∧ Wrote (mine vd) w w' := by
  have HL : Hid (∀ W, Below w.heap.size w W → Calls Tryd.prog 74 #[vd, .int .i64 k] W fun e w' => e = .returned (.int .i64 ((k + x.cards.length : Nat) : Int)) ∧ OIRow B w' vd (mkI k x.cards.length) ∧ Wrote (mine vd) W w') := fun W hW => markInts_any B k vd _ W (hv.below hW) h1 (by omega)
  obtain ⟨a, cap, rfl⟩ := slice_own hv
  obtain ⟨kind, name, sum, cs⟩ := x
  unfold lnV
  dsimp only at HL hl ⊢
  have B0 : Hid (Below w.heap.size w (w.alloc (.cells #[.int .i64 kind, .string name, .string sum, .slice a cs.length cap] 29))) := albel w _
  have k0 := heap_alloc_new w (.cells #[.int .i64 kind, .string name, .string sum, .slice a cs.length cap] 29)
  have r3 := block_cell k0 3
  clear hv k0
  generalize k + cs.length = z at *
  go_enter Tryd.func33, Tryd.ntmps33
  go_wp2_with fail
  refine (HL.out _ B0.out).mono ?_
  rintro e w1 ⟨rfl, _, ht1⟩
  have HF : Hid (Wrote (mine (.slice a cs.length cap)) w w1) := (Wrote.of_below B0.out).trans ht1
  clear ht1 HL B0
  go_wp2
  go_ret
  exact ⟨rfl, HF.out⟩
set_option maxRecDepth 100000 in
set_option maxHeartbeats 1600000 in
theorem eqOut_same (vl vk ul uk : Value) (c : Int) (ls : List Ln) (ks : List ByteArray) (w : World) (hv : LRow w vl ls) (hu : SRow w vk ks) (hv2 : LRow w ul ls) (hu2 : SRow w uk ks) :
    Calls Tryd.prog 30 #[.agg #[vl, vk, .int .i64 c], .agg #[ul, uk, .int .i64 c]] w fun e w' => e = .returned (.bool true) ∧ Below w.heap.size w w' := by
  have HL : Hid (∀ W, Below w.heap.size w W → Calls Tryd.prog 27 #[.agg #[vl, vk], .agg #[ul, uk]] W fun e w' => e = .returned (.bool true) ∧ Below W.heap.size W w') := fun W hW => AB.eqAudit_same vl vk ul uk ls ks W (hv.below hW) (hu.below hW) (hv2.below hW) (hu2.below hW)
  obtain ⟨a, cap, rfl, _, _⟩ := hv
  obtain ⟨a2, cap2, rfl, _, _⟩ := hu
  obtain ⟨a3, cap3, rfl, _, _⟩ := hv2
  obtain ⟨a4, cap4, rfl, _, _⟩ := hu2
  have B0 : Hid (Below w.heap.size w ((w.alloc (.cells #[.slice a ls.length cap, .slice a2 ks.length cap2, .int .i64 c] 33)).alloc (.cells #[.slice a3 ls.length cap3, .slice a4 ks.length cap4, .int .i64 c] 33))) := ((Below.refl _ _).alloc (Nat.le_refl _) _).alloc (by simp) _
  have k0 := carryA (heap_alloc_new w (.cells #[.slice a ls.length cap, .slice a2 ks.length cap2, .int .i64 c] 33)) (.cells #[.slice a3 ls.length cap3, .slice a4 ks.length cap4, .int .i64 c] 33)
  have k2 := heap_alloc_new (w.alloc (.cells #[.slice a ls.length cap, .slice a2 ks.length cap2, .int .i64 c] 33)) (.cells #[.slice a3 ls.length cap3, .slice a4 ks.length cap4, .int .i64 c] 33)
  go_enter Tryd.func30, Tryd.ntmps30
  go_wp2_with fail
  refine (HL.out _ B0.out).mono ?_
  rintro e w1 ⟨rfl, hb⟩
  have k1 := carry k0 hb
  have k3 := carry k2 hb
  rw [asz] at k3
  have B1 : Hid (Below w.heap.size w w1) := bel2 B0.out hb
  have r1 := block_cell k1 2
  have r3 := block_cell k3 2
  clear hb k0 k1 k2 k3
  go_wp2
  go_ret
  exact ⟨rfl, B1.out⟩
end Go.Proofs.YtkpjdmmgdmbmnaaDoor.IT
