/-
  A line added to a log, in the program.
-/
import Derived.Test.YtkpjdmmgdmbmnaaDoorIF
namespace Go.Proofs.YtkpjdmmgdmbmnaaDoor.IH
open Go.RowKit
open Go.Proofs.YtkpjdmmgdmbmnaaDoor.C0 Go.Proofs.YtkpjdmmgdmbmnaaDoor.HB
open Go.Proofs.YtkpjdmmgdmbmnaaDoor.A0 Go.Proofs.YtkpjdmmgdmbmnaaDoor.A1 Go.Proofs.YtkpjdmmgdmbmnaaDoor.A2 Go.Proofs.YtkpjdmmgdmbmnaaDoor.A3 Go.Proofs.YtkpjdmmgdmbmnaaDoor.A4 Go.Proofs.YtkpjdmmgdmbmnaaDoor.I1 Go.Proofs.YtkpjdmmgdmbmnaaDoor.I2 Go.Proofs.YtkpjdmmgdmbmnaaDoor.I3 Go.Proofs.YtkpjdmmgdmbmnaaDoor.I4 Go.Proofs.YtkpjdmmgdmbmnaaDoor.I5 Go.Proofs.YtkpjdmmgdmbmnaaDoor.IE Go.Proofs.YtkpjdmmgdmbmnaaDoor.IF
def addC (ls : List Ln) (ks : List ByteArray) (x : Ln) : Int := if auditB linkT ls ks = true ∧ lineB x = true then (if ls.length = 12 then 9 else 0) else 1
def addL (ls : List Ln) (ks : List ByteArray) (x : Ln) : List Ln := if addC ls ks x = 0 then ls ++ [x] else []
def addK (ls : List Ln) (ks : List ByteArray) (x : Ln) : List ByteArray := if addC ls ks x = 0 then (List.range (ls.length + 1)).map (linkN (ls ++ [x])) else []
theorem blk3a {w : World} {g : Nat} {a b c : Value} {T : TypeId} (h : w.heap[g]? = some (.cells #[a, b, c] T (0, 0))) : w.cell? ⟨g, 0, none⟩ = some a ∧ w.cell? ⟨g, 1, none⟩ = some b ∧ w.cell? ⟨g, 2, none⟩ = some c ∧ ∀ o, w.frozen? ⟨g, o, none⟩ = false :=
  ⟨by simp [World.cell?, h], by simp [World.cell?, h], by simp [World.cell?, h], fun o => by simp [World.frozen?, h]⟩
theorem lies_below {w w' : World} {a : Option Addr} {ls : List Ln} {vcs : Nat → Value} (h : Lies w a ls vcs) (hb : Below w.heap.size w w') : Lies w' a ls vcs := by
  refine ⟨h.fine, fun k => (h.cards k).below hb, fun h0 => ?_, h.len⟩
  obtain ⟨b, off, e, hbb, hc⟩ := h.cells h0
  refine ⟨b, off, e, Nat.lt_of_lt_of_le hbb hb.size, fun k hk => ?_⟩
  obtain ⟨p0, p1, p2, p3⟩ := hc k hk
  exact ⟨(hb.cell (p := ⟨b, off + k * 4, none⟩) hbb).trans p0, (hb.cell (p := ⟨b, off + k * 4 + 1, none⟩) hbb).trans p1, (hb.cell (p := ⟨b, off + k * 4 + 2, none⟩) hbb).trans p2, (hb.cell (p := ⟨b, off + k * 4 + 3, none⟩) hbb).trans p3⟩
theorem ols_set {B g i : Nat} {w : World} {v u : Value} {l : List Ln} {cs : Array Value} {T : TypeId} (h : OLs B w v l) (hb : w.heap[g]? = some (Obj.cells cs T (0, 0))) (hT : T ≠ 29 ∧ T ≠ 2) : OLs B (w.setCell ⟨g, i, none⟩ u) v l :=
  h.keep fun g' cs' T' hg' hT' _ => heap_setCell_other _ _ _ _ (fun e => by
    have e' : g' = g := e
    subst e'
    rw [hb] at hg'
    cases hg'
    rcases hT' with q | q
    · exact hT.1 q
    · exact hT.2 q)
set_option maxRecDepth 100000 in
set_option maxHeartbeats 3200000 in
theorem add_impl (va ka vx : Value) (ls : List Ln) (ks : List ByteArray) (x : Ln) (w : World) (hL : K2.Laid w) (hv : LRow w va ls) (hu : SRow w ka ks) (hw : ∀ y ∈ ls, LnW y) (hx : IRow w vx x.cards) (wx : LnW x) :
    Calls Tryd.prog 8 #[.agg #[va, ka], lnV x vx] w fun e w' => ∃ ul uk, e = .returned (.agg #[ul, uk, .int .i64 (addC ls ks x)]) ∧ OLs w.heap.size w' ul (addL ls ks x) ∧ OT w.heap.size w' uk (addK ls ks x) ∧ Below w.heap.size w w' := by
  have CA : Hid (∀ W, Below w.heap.size w W → Calls Tryd.prog 22 #[.agg #[va, ka]] W fun e w' => e = .returned (.bool (auditB linkT ls ks)) ∧ Below W.heap.size W w') := fun W hW => I3.right_impl va ka ls ks W (hL.below hW) (hv.below hW) (hu.below hW) hw
  have CX : Hid (∀ W, Below w.heap.size w W → Calls Tryd.prog 20 #[lnV x vx] W fun e w' => e = .returned (.bool (lineB x)) ∧ Below W.heap.size W w') := fun W hW => I0.line_impl x vx W (hx.below hW) wx.1 wx.2.1
  have HC : Hid (addC ls ks x = if auditB linkT ls ks = true ∧ lineB x = true then (if ls.length = 12 then 9 else 0) else 1) := rfl
  have HLd : Hid (addL ls ks x = if addC ls ks x = 0 then ls ++ [x] else []) := rfl
  have HKd : Hid (addK ls ks x = if addC ls ks x = 0 then (List.range (ls.length + 1)).map (linkN (ls ++ [x])) else []) := rfl
  have hv' := hv
  have hx' := hx
  obtain ⟨a1, c1, rfl, hl1, _⟩ := hv
  obtain ⟨a2, c2, rfl, hl2, _⟩ := hu
  obtain ⟨a3, c3, rfl, _, _⟩ := hx
  unfold maxLen at hl1
  obtain ⟨vcs, hlies⟩ := lies_of hv' hw
  have KA := carryA (carryA (heap_alloc_new w (.cells #[.slice a1 ls.length c1, .slice a2 ks.length c2] 26)) (.cells #[.int .i64 x.kind, .string x.name, .string x.sum, .slice a3 x.cards.length c3] 29)) (.cells #[.slice none 0 0, .slice none 0 0, .int .i64 0] 33)
  have KX := heap_alloc_new (w.alloc (.cells #[.slice a1 ls.length c1, .slice a2 ks.length c2] 26)) (.cells #[.int .i64 x.kind, .string x.name, .string x.sum, .slice a3 x.cards.length c3] 29)
  rw [asz] at KX
  have KX2 := carryA KX (.cells #[.slice none 0 0, .slice none 0 0, .int .i64 0] 33)
  have KR := heap_alloc_new ((w.alloc (.cells #[.slice a1 ls.length c1, .slice a2 ks.length c2] 26)).alloc (.cells #[.int .i64 x.kind, .string x.name, .string x.sum, .slice a3 x.cards.length c3] 29)) (.cells #[.slice none 0 0, .slice none 0 0, .int .i64 0] 33)
  have hsz : ((w.alloc (.cells #[.slice a1 ls.length c1, .slice a2 ks.length c2] 26)).alloc (.cells #[.int .i64 x.kind, .string x.name, .string x.sum, .slice a3 x.cards.length c3] 29)).heap.size = w.heap.size + 1 + 1 := by simp
  rw [hsz] at KR
  have BB := ((albel w (.cells #[.slice a1 ls.length c1, .slice a2 ks.length c2] 26)).alloc (by simp) (.cells #[.int .i64 x.kind, .string x.name, .string x.sum, .slice a3 x.cards.length c3] 29)).alloc (by rw [hsz]; omega) (.cells #[.slice none 0 0, .slice none 0 0, .int .i64 0] 33)
  have HA : Hid _ := KA
  have HX : Hid _ := KX2
  have HR : Hid _ := KR
  have HB : Hid _ := BB
  clear KA KX KX2 KR BB hsz
  have hxl := hx'
  unfold lnV at CX ⊢
  obtain ⟨kind, name, sum, cs⟩ := x
  dsimp only at *
  cases ra : auditB linkT ls ks with
  | false =>
    have HV : Hid (addC ls ks ⟨kind, name, sum, cs⟩ = 1) := by unfold Hid; rw [HC.out, ra]; rfl
    have HL0 : Hid (addL ls ks ⟨kind, name, sum, cs⟩ = []) := by unfold Hid; rw [HLd.out, HV.out]; rfl
    have HK0 : Hid (addK ls ks ⟨kind, name, sum, cs⟩ = []) := by unfold Hid; rw [HKd.out, HV.out]; rfl
    rw [HV.out, HL0.out, HK0.out]
    rw [ra] at CA
    clear HC HLd HKd HV HL0 HK0 CX hv' hx' hxl hlies hw wx hL HA HX ra
    go_enter Tryd.func8, Tryd.ntmps8
    go_wp2_with fail
    refine (CA.out _ HB.out).mono ?_
    rintro e w1 ⟨rfl, hb1⟩
    have HB1 : Hid (Below w.heap.size w w1) := bel2 HB.out hb1
    obtain ⟨r0, r1, r2, rf⟩ := blk3a (carry HR.out hb1)
    clear hb1 HB HR CA
    go_wp2
    refine bodyPost_ret (v := .agg #[.slice none 0 0, .slice none 0 0, .int .i64 1]) (by simp [results, Tryd.results8, go_sem, r0, r1, r2]) rfl ⟨_, _, rfl, OLs.nil _ _, World.ownsRow_nil _ _ _ _, ((HB1.out.setCell (by show w.heap.size ≤ w.heap.size + 1 + 1; omega) _).setCell (by show w.heap.size ≤ w.heap.size + 1 + 1; omega) _).setCell (by show w.heap.size ≤ w.heap.size + 1 + 1; omega) _⟩
  | true =>
    rw [ra] at CA
    cases rx : lineB ⟨kind, name, sum, cs⟩ with
    | false =>
      have HV : Hid (addC ls ks ⟨kind, name, sum, cs⟩ = 1) := by unfold Hid; rw [HC.out, ra, rx]; rfl
      have HL0 : Hid (addL ls ks ⟨kind, name, sum, cs⟩ = []) := by unfold Hid; rw [HLd.out, HV.out]; rfl
      have HK0 : Hid (addK ls ks ⟨kind, name, sum, cs⟩ = []) := by unfold Hid; rw [HKd.out, HV.out]; rfl
      rw [HV.out, HL0.out, HK0.out]
      rw [rx] at CX
      clear HC HLd HKd HV HL0 HK0 hv' hx' hxl hlies hw wx hL HA ra rx
      go_enter Tryd.func8, Tryd.ntmps8
      go_wp2_with fail
      refine (CA.out _ HB.out).mono ?_
      rintro e w1 ⟨rfl, hb1⟩
      have HB1 : Hid (Below w.heap.size w w1) := bel2 HB.out hb1
      have HR1 : Hid _ := carry HR.out hb1
      obtain ⟨q0, q1, q2, q3, qf⟩ := blk4f (carry HX.out hb1)
      clear hb1 HB HR HX CA
      go_wp2_with fail
      refine (CX.out _ HB1.out).mono ?_
      rintro e w2 ⟨rfl, hb2⟩
      have HB2 : Hid (Below w.heap.size w w2) := bel2 HB1.out hb2
      obtain ⟨r0, r1, r2, rf⟩ := blk3a (carry HR1.out hb2)
      clear hb2 HB1 HR1 CX q0 q1 q2 q3 qf
      go_wp2
      refine bodyPost_ret (v := .agg #[.slice none 0 0, .slice none 0 0, .int .i64 1]) (by simp [results, Tryd.results8, go_sem, r0, r1, r2]) rfl ⟨_, _, rfl, OLs.nil _ _, World.ownsRow_nil _ _ _ _, ((HB2.out.setCell (by show w.heap.size ≤ w.heap.size + 1 + 1; omega) _).setCell (by show w.heap.size ≤ w.heap.size + 1 + 1; omega) _).setCell (by show w.heap.size ≤ w.heap.size + 1 + 1; omega) _⟩
    | true =>
      rw [rx] at CX
      have hn12 := (audit_parts ra).1
      by_cases h12 : ls.length = 12
      · have HV : Hid (addC ls ks ⟨kind, name, sum, cs⟩ = 9) := by unfold Hid; rw [HC.out, if_pos ⟨ra, rx⟩, if_pos h12]
        have HL0 : Hid (addL ls ks ⟨kind, name, sum, cs⟩ = []) := by unfold Hid; rw [HLd.out, HV.out]; rfl
        have HK0 : Hid (addK ls ks ⟨kind, name, sum, cs⟩ = []) := by unfold Hid; rw [HKd.out, HV.out]; rfl
        rw [HV.out, HL0.out, HK0.out]
        have t1 : ((ls.length : Int) == 12) = true := by rw [h12]; rfl
        clear HC HLd HKd HV HL0 HK0 hv' hx' hxl hlies hw wx hL ra rx h12 hn12
        go_enter Tryd.func8, Tryd.ntmps8
        go_wp2_with fail
        refine (CA.out _ HB.out).mono ?_
        rintro e w1 ⟨rfl, hb1⟩
        have HB1 : Hid (Below w.heap.size w w1) := bel2 HB.out hb1
        have HR1 : Hid _ := carry HR.out hb1
        have HA1 : Hid _ := carry HA.out hb1
        obtain ⟨q0, q1, q2, q3, qf⟩ := blk4f (carry HX.out hb1)
        clear hb1 HB HR HX HA CA
        go_wp2_with fail
        refine (CX.out _ HB1.out).mono ?_
        rintro e w2 ⟨rfl, hb2⟩
        have HB2 : Hid (Below w.heap.size w w2) := bel2 HB1.out hb2
        obtain ⟨r0, r1, r2, rf⟩ := blk3a (carry HR1.out hb2)
        obtain ⟨s0, s1, sf⟩ := blk2a (carry HA1.out hb2)
        clear hb2 HB1 HR1 HA1 CX q0 q1 q2 q3 qf
        go_wp2
        refine bodyPost_ret (v := .agg #[.slice none 0 0, .slice none 0 0, .int .i64 9]) (by simp [results, Tryd.results8, go_sem, r0, r1, r2]) rfl ⟨_, _, rfl, OLs.nil _ _, World.ownsRow_nil _ _ _ _, ((HB2.out.setCell (by show w.heap.size ≤ w.heap.size + 1 + 1; omega) _).setCell (by show w.heap.size ≤ w.heap.size + 1 + 1; omega) _).setCell (by show w.heap.size ≤ w.heap.size + 1 + 1; omega) _⟩
      · have HV : Hid (addC ls ks ⟨kind, name, sum, cs⟩ = 0) := by unfold Hid; rw [HC.out, if_pos ⟨ra, rx⟩, if_neg h12]
        have HL0 : Hid (addL ls ks ⟨kind, name, sum, cs⟩ = ls ++ [⟨kind, name, sum, cs⟩]) := by unfold Hid; rw [HLd.out, if_pos HV.out]
        have HK0 : Hid (addK ls ks ⟨kind, name, sum, cs⟩ = (List.range (ls.length + 1)).map (linkN (ls ++ [⟨kind, name, sum, cs⟩]))) := by unfold Hid; rw [HKd.out, if_pos HV.out]
        rw [HV.out, HL0.out, HK0.out]
        have t1 : ((ls.length : Int) == 12) = false := beq_eq_false_iff_ne.2 (by omega)
        have HLR : Hid (∀ k, lineB (lAt (ls ++ [⟨kind, name, sum, cs⟩]) k) = true ∨ lAt (ls ++ [⟨kind, name, sum, cs⟩]) k = lnZ) := fun k => by
          by_cases hk : k < ls.length + 1
          · rw [lAt_snoc _ _ _ hk]
            split
            · rename_i h; exact .inl (audit_line ra h)
            · exact .inl rx
          · exact .inr (lAt_out (by simp; omega))
        have HLW : Hid (∀ y ∈ ls ++ [(⟨kind, name, sum, cs⟩ : Ln)], LnW y) := fun y hy => by
          rcases List.mem_append.1 hy with h | h
          · exact hw y h
          · rw [List.mem_singleton.1 h]; exact wx
        have HLL : Hid ((ls ++ [(⟨kind, name, sum, cs⟩ : Ln)]).length = ls.length + 1) := by unfold Hid; simp
        have HCC : Hid (∀ W, Below w.heap.size w W → ∀ sB xB, W.cell? ⟨sB, 0, none⟩ = some (.slice a1 ls.length c1) → W.cell? ⟨sB, 1, none⟩ = some (.slice (some ⟨xB, 0, none⟩) 1 1) → W.cell? ⟨xB, 0, none⟩ = some (.int .i64 kind) → W.cell? ⟨xB, 1, none⟩ = some (.string name) → W.cell? ⟨xB, 2, none⟩ = some (.string sum) → W.cell? ⟨xB, 3, none⟩ = some (.slice a3 cs.length c3) →
            Calls Tryd.prog 40 #[.slice (some ⟨sB, 0, none⟩) 2 2] W fun e w' => ∃ a cap, e = .returned (.slice a (ls.length + 1) cap) ∧ LRow w' (.slice a (ls.length + 1) cap) (ls ++ [⟨kind, name, sum, cs⟩]) ∧ Below W.heap.size W w') := fun W hW sB xB p0 p1 p2 p3 p4 p5 =>
          concat_any a1 c1 ls ⟨kind, name, sum, cs⟩ vcs (.slice a3 cs.length c3) W sB xB hn12 p0 p1 p2 p3 p4 p5 (lies_below hlies hW) (hx'.below hW)
        have HOF : Hid (∀ W, Below w.heap.size w W → ∀ a cap, LRow W (.slice a (ls.length + 1) cap) (ls ++ [⟨kind, name, sum, cs⟩]) → Calls Tryd.prog 39 #[.slice a (ls.length + 1) cap] W fun e w' => ∃ ul uk, e = .returned (.agg #[ul, uk]) ∧ OLs W.heap.size w' ul (ls ++ [⟨kind, name, sum, cs⟩]) ∧ OT W.heap.size w' uk ((List.range (ls.length + 1)).map (linkN (ls ++ [⟨kind, name, sum, cs⟩]))) ∧ Below W.heap.size W w') := fun W hW a cap hr => by
          rw [← HLL.out] at hr ⊢
          obtain ⟨vcs2, hl2⟩ := lies_of hr HLW.out
          exact auditOf_any a cap _ vcs2 W (hL.below hW) hl2 (by rw [HLL.out]; omega) HLR.out
        clear HC HLd HKd HV HL0 HK0 hv' hx' hxl hlies hw wx hL ra rx h12 hn12 HLR HLW HLL
        generalize ls ++ [(⟨kind, name, sum, cs⟩ : Ln)] = L2 at *
        go_enter Tryd.func8, Tryd.ntmps8
        go_wp2_with fail
        refine (CA.out _ HB.out).mono ?_
        rintro e w1 ⟨rfl, hb1⟩
        have HB1 : Hid (Below w.heap.size w w1) := bel2 HB.out hb1
        have HR1 : Hid _ := carry HR.out hb1
        have HA1 : Hid _ := carry HA.out hb1
        have HX1 : Hid _ := carry HX.out hb1
        obtain ⟨q0, q1, q2, q3, qf⟩ := blk4f HX1.out
        clear hb1 HB HR HX HA CA
        go_wp2_with fail
        refine (CX.out _ HB1.out).mono ?_
        rintro e w2 ⟨rfl, hb2⟩
        have HB2 : Hid (Below w.heap.size w w2) := bel2 HB1.out hb2
        have HR2 : Hid _ := carry HR1.out hb2
        obtain ⟨s0, s1, sf⟩ := blk2a (carry HA1.out hb2)
        clear q0 q1 q2 q3 qf
        obtain ⟨q0, q1, q2, q3, qf⟩ := blk4f (carry HX1.out hb2)
        clear hb2 HB1 HR1 HA1 HX1 CX
        go_wp2_with fail
        have hbl := albel w2 (.cells #[.int .i64 kind, .string name, .string sum, .slice a3 cs.length c3] 29)
        have hbl2 := hbl.alloc hbl.size (.cells #[.slice a1 ls.length c1, .slice (some ⟨w2.heap.size, 0, none⟩) 1 1] 23)
        have HB3 : Hid (Below w.heap.size w ((w2.alloc (.cells #[.int .i64 kind, .string name, .string sum, .slice a3 cs.length c3] 29)).alloc (.cells #[.slice a1 ls.length c1, .slice (some ⟨w2.heap.size, 0, none⟩) 1 1] 23))) := bel2 HB2.out hbl2
        have HR3 : Hid _ := carry HR2.out hbl2
        refine (HCC.out _ HB3.out (w2.heap.size + 1) w2.heap.size (by simp [go_sem]) (by simp [go_sem]) (by simp [go_sem]) (by simp [go_sem]) (by simp [go_sem]) (by simp [go_sem])).mono ?_
        rintro e w3 ⟨a5, c5, rfl, hrow, hb3⟩
        have HB4 : Hid (Below w.heap.size w w3) := bel2 HB3.out hb3
        have HR4 : Hid _ := carry HR3.out hb3
        have HRW : Hid (LRow w3 (.slice a5 (ls.length + 1) c5) L2) := hrow
        clear hbl hbl2 hb3 hrow HB3 HR3 HB2 HR2 HCC q0 q1 q2 q3 qf s0 s1 sf
        go_wp2_with fail
        refine (HOF.out _ HB4.out a5 c5 HRW.out).mono ?_
        rintro e w4 ⟨ul, uk, rfl, hol, hok, hb4⟩
        have HB5 : Hid (Below w.heap.size w w4) := bel2 HB4.out hb4
        have HR5 : Hid _ := carry HR4.out hb4
        have HOL : Hid (OLs w.heap.size w4 ul L2) := hol.mono HB4.out.size
        have HOK : Hid (OT w.heap.size w4 uk ((List.range (ls.length + 1)).map (linkN L2))) := NU.own_mono hok HB4.out.size
        have hform1 : ∃ x y z, ul = .slice x y z := by obtain ⟨_, h, _⟩ := hol; rcases h.2 with ⟨h, _⟩ | ⟨_, _, _, h, _⟩ <;> exact ⟨_, _, _, h⟩
        have hform2 : ∃ x y z, uk = .slice x y z := by rcases hok.2 with ⟨h, _⟩ | ⟨_, _, _, h, _⟩ <;> exact ⟨_, _, _, h⟩
        clear hol hok hb4 HB4 HR4 HOF HRW
        obtain ⟨x1, y1, z1, rfl⟩ := hform1
        obtain ⟨x2, y2, z2, rfl⟩ := hform2
        obtain ⟨r0, r1, r2, rf⟩ := blk3a HR5.out
        go_wp2
        have hb1 := AB.heap_set (i := 0) (v := .slice x1 y1 z1) HR5.out (by show 0 < 3; omega)
        have hb2 := AB.heap_set (i := 1) (v := .slice x2 y2 z2) hb1 (by show 1 < 3; omega)
        have hT : (33 : TypeId) ≠ 29 ∧ (33 : TypeId) ≠ 2 := by decide
        refine bodyPost_ret (v := .agg #[.slice x1 y1 z1, .slice x2 y2 z2, .int .i64 0]) (by simp [results, Tryd.results8, go_sem, r0, r1, r2]) rfl ⟨_, _, rfl, ?_, ?_, ?_⟩
        · exact ols_set (ols_set (ols_set HOL.out HR5.out hT) hb1 hT) hb2 hT
        · exact row_set (row_set (row_set HOK.out HR5.out (by decide)) hb1 (by decide)) hb2 (by decide)
        · exact ((HB5.out.setCell (by show w.heap.size ≤ w.heap.size + 1 + 1; omega) _).setCell (by show w.heap.size ≤ w.heap.size + 1 + 1; omega) _).setCell (by show w.heap.size ≤ w.heap.size + 1 + 1; omega) _
end Go.Proofs.YtkpjdmmgdmbmnaaDoor.IH
