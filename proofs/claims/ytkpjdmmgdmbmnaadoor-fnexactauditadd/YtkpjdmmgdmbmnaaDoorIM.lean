/-
  A line added to a log, in the specification: its face.
-/
import Derived.Test.YtkpjdmmgdmbmnaaDoorIK
namespace Go.Proofs.YtkpjdmmgdmbmnaaDoor.IM
open Go.RowKit
open Go.Proofs.YtkpjdmmgdmbmnaaDoor.C0 Go.Proofs.YtkpjdmmgdmbmnaaDoor.HB
open Go.Proofs.YtkpjdmmgdmbmnaaDoor.A0 Go.Proofs.YtkpjdmmgdmbmnaaDoor.A1 Go.Proofs.YtkpjdmmgdmbmnaaDoor.A2 Go.Proofs.YtkpjdmmgdmbmnaaDoor.A3 Go.Proofs.YtkpjdmmgdmbmnaaDoor.A4 Go.Proofs.YtkpjdmmgdmbmnaaDoor.I1 Go.Proofs.YtkpjdmmgdmbmnaaDoor.I2 Go.Proofs.YtkpjdmmgdmbmnaaDoor.I3 Go.Proofs.YtkpjdmmgdmbmnaaDoor.I4 Go.Proofs.YtkpjdmmgdmbmnaaDoor.I5 Go.Proofs.YtkpjdmmgdmbmnaaDoor.IF Go.Proofs.YtkpjdmmgdmbmnaaDoor.IH Go.Proofs.YtkpjdmmgdmbmnaaDoor.IJ
set_option maxRecDepth 100000 in
set_option maxHeartbeats 3200000 in
theorem add_spec (va ka vx : Value) (ls : List Ln) (ks : List ByteArray) (x : Ln) (w : World) (hv : LRow w va ls) (hu : SRow w ka ks) (hw : ∀ y ∈ ls, LnW y) (hx : IRow w vx x.cards) (wx : LnW x) :
    Calls Tryd.prog 9 #[.agg #[va, ka], lnV x vx] w fun e w' => ∃ ul uk, e = .returned (.agg #[ul, uk, .int .i64 (addC ls ks x)]) ∧ OLs w.heap.size w' ul (addL ls ks x) ∧ OT w.heap.size w' uk (addK ls ks x) ∧ Below w.heap.size w w' := by
  have CA : Hid (∀ W, Below w.heap.size w W → Calls Tryd.prog 23 #[.agg #[va, ka]] W fun e w' => e = .returned (.bool (auditB linkT ls ks)) ∧ Below W.heap.size W w') := fun W hW => rightS va ka ls ks W (hv.below hW) (hu.below hW) hw
  have CX : Hid (∀ W, Below w.heap.size w W → Calls Tryd.prog 21 #[lnV x vx] W fun e w' => e = .returned (.bool (lineB x)) ∧ Below W.heap.size W w') := fun W hW => A1.line_spec x vx W (hx.below hW) wx.1 wx.2.1
  have C9 : Hid (auditB linkT ls ks = true → lineB x = true → ∀ W, Below w.heap.size w W → Calls Tryd.prog 41 #[.agg #[va, ka], lnV x vx] W fun e w' => ∃ ul uk, e = .returned (.agg #[ul, uk, .int .i64 (addC ls ks x)]) ∧ OLs W.heap.size w' ul (addL ls ks x) ∧ OT W.heap.size w' uk (addK ls ks x) ∧ Below W.heap.size W w') := fun ra rx W hW => IK.add9_spec va ka vx ls ks x W (hv.below hW) (hu.below hW) (hx.below hW) wx ra rx
  have HC : Hid (addC ls ks x = if auditB linkT ls ks = true ∧ lineB x = true then (if ls.length = 12 then 9 else 0) else 1) := rfl
  have HLd : Hid (addL ls ks x = if addC ls ks x = 0 then ls ++ [x] else []) := rfl
  have HKd : Hid (addK ls ks x = if addC ls ks x = 0 then (List.range (ls.length + 1)).map (linkN (ls ++ [x])) else []) := rfl
  obtain ⟨a1, c1, rfl, hl1, _⟩ := hv
  obtain ⟨a2, c2, rfl, hl2, _⟩ := hu
  obtain ⟨a3, c3, rfl, _, _⟩ := hx
  have KA := carryA (carryA (heap_alloc_new w (.cells #[.slice a1 ls.length c1, .slice a2 ks.length c2] 26)) (.cells #[.int .i64 x.kind, .string x.name, .string x.sum, .slice a3 x.cards.length c3] 29)) (.cells #[.slice none 0 0, .slice none 0 0, .int .i64 0] 33)
  have KX := heap_alloc_new (w.alloc (.cells #[.slice a1 ls.length c1, .slice a2 ks.length c2] 26)) (.cells #[.int .i64 x.kind, .string x.name, .string x.sum, .slice a3 x.cards.length c3] 29)
  rw [asz] at KX
  have KX2 := carryA KX (.cells #[.slice none 0 0, .slice none 0 0, .int .i64 0] 33)
  have KR := heap_alloc_new ((w.alloc (.cells #[.slice a1 ls.length c1, .slice a2 ks.length c2] 26)).alloc (.cells #[.int .i64 x.kind, .string x.name, .string x.sum, .slice a3 x.cards.length c3] 29)) (.cells #[.slice none 0 0, .slice none 0 0, .int .i64 0] 33)
  have hsz : ((w.alloc (.cells #[.slice a1 ls.length c1, .slice a2 ks.length c2] 26)).alloc (.cells #[.int .i64 x.kind, .string x.name, .string x.sum, .slice a3 x.cards.length c3] 29)).heap.size = w.heap.size + 1 + 1 := by simp
  rw [hsz] at KR
  have BB := ((albel w (.cells #[.slice a1 ls.length c1, .slice a2 ks.length c2] 26)).alloc (by simp) (.cells #[.int .i64 x.kind, .string x.name, .string x.sum, .slice a3 x.cards.length c3] 29)).alloc (by rw [hsz]; omega) (.cells #[.slice none 0 0, .slice none 0 0, .int .i64 0] 33)
  have HA : Hid _ := KA
  have HX : Hid _ := KX2
  have HR : Hid _ := KR
  have HB : Hid _ := BB
  clear KA KX KX2 KR BB hsz hw wx
  unfold lnV at CX C9 ⊢
  obtain ⟨kind, name, sum, cs⟩ := x
  dsimp only at *
  cases ra : auditB linkT ls ks with
  | false =>
    have HV : Hid (addC ls ks ⟨kind, name, sum, cs⟩ = 1) := by unfold Hid; rw [HC.out, ra]; rfl
    have HL0 : Hid (addL ls ks ⟨kind, name, sum, cs⟩ = []) := by unfold Hid; rw [HLd.out, HV.out]; rfl
    have HK0 : Hid (addK ls ks ⟨kind, name, sum, cs⟩ = []) := by unfold Hid; rw [HKd.out, HV.out]; rfl
    rw [HV.out, HL0.out, HK0.out]
    rw [ra] at CA
    clear HC HLd HKd HV HL0 HK0 CX C9 HA HX ra
    go_enter Tryd.func9, Tryd.ntmps9
    go_wp2_with fail
    refine (CA.out _ HB.out).mono ?_
    rintro e w1 ⟨rfl, hb1⟩
    have HB1 : Hid (Below w.heap.size w w1) := bel2 HB.out hb1
    obtain ⟨r0, r1, r2, rf⟩ := blk3a (carry HR.out hb1)
    clear hb1 HB HR CA
    go_wp2
    refine bodyPost_ret (v := .agg #[.slice none 0 0, .slice none 0 0, .int .i64 1]) (by simp [results, Tryd.results9, go_sem, r0, r1, r2]) rfl ⟨_, _, rfl, OLs.nil _ _, World.ownsRow_nil _ _ _ _, ((HB1.out.setCell (by show w.heap.size ≤ w.heap.size + 1 + 1; omega) _).setCell (by show w.heap.size ≤ w.heap.size + 1 + 1; omega) _).setCell (by show w.heap.size ≤ w.heap.size + 1 + 1; omega) _⟩
  | true =>
    rw [ra] at CA
    cases rx : lineB ⟨kind, name, sum, cs⟩ with
    | false =>
      have HV : Hid (addC ls ks ⟨kind, name, sum, cs⟩ = 1) := by unfold Hid; rw [HC.out, ra, rx]; rfl
      have HL0 : Hid (addL ls ks ⟨kind, name, sum, cs⟩ = []) := by unfold Hid; rw [HLd.out, HV.out]; rfl
      have HK0 : Hid (addK ls ks ⟨kind, name, sum, cs⟩ = []) := by unfold Hid; rw [HKd.out, HV.out]; rfl
      rw [HV.out, HL0.out, HK0.out]
      rw [rx] at CX
      clear HC HLd HKd HV HL0 HK0 C9 HA ra rx
      go_enter Tryd.func9, Tryd.ntmps9
      go_wp2_with fail
      refine (CA.out _ HB.out).mono ?_
      rintro e w1 ⟨rfl, hb1⟩
      have HB1 : Hid (Below w.heap.size w w1) := bel2 HB.out hb1
      have HR1 : Hid _ := carry HR.out hb1
      obtain ⟨q0, q1, q2, q3, qf⟩ := blk4f (carry HX.out hb1)
      clear hb1 HB HR HX CA
      go_wp2_with fail
      refine (CX.out _ HB1.out).mono ?_
      rintro e w2 ⟨rfl, hb2⟩
      have HB2 : Hid (Below w.heap.size w w2) := bel2 HB1.out hb2
      obtain ⟨r0, r1, r2, rf⟩ := blk3a (carry HR1.out hb2)
      clear hb2 HB1 HR1 CX q0 q1 q2 q3 qf
      go_wp2
      refine bodyPost_ret (v := .agg #[.slice none 0 0, .slice none 0 0, .int .i64 1]) (by simp [results, Tryd.results9, go_sem, r0, r1, r2]) rfl ⟨_, _, rfl, OLs.nil _ _, World.ownsRow_nil _ _ _ _, ((HB2.out.setCell (by show w.heap.size ≤ w.heap.size + 1 + 1; omega) _).setCell (by show w.heap.size ≤ w.heap.size + 1 + 1; omega) _).setCell (by show w.heap.size ≤ w.heap.size + 1 + 1; omega) _⟩
    | true =>
      rw [rx] at CX
      have C92 : Hid (∀ W, Below w.heap.size w W → Calls Tryd.prog 41 #[.agg #[.slice a1 ls.length c1, .slice a2 ks.length c2], .agg #[.int .i64 kind, .string name, .string sum, .slice a3 cs.length c3]] W fun e w' => ∃ ul uk, e = .returned (.agg #[ul, uk, .int .i64 (addC ls ks ⟨kind, name, sum, cs⟩)]) ∧ OLs W.heap.size w' ul (addL ls ks ⟨kind, name, sum, cs⟩) ∧ OT W.heap.size w' uk (addK ls ks ⟨kind, name, sum, cs⟩) ∧ Below W.heap.size W w') := C9.out ra rx
      clear HC HLd HKd C9 ra rx
      generalize addC ls ks ⟨kind, name, sum, cs⟩ = cd at *
      generalize addL ls ks ⟨kind, name, sum, cs⟩ = L2 at *
      generalize addK ls ks ⟨kind, name, sum, cs⟩ = K2 at *
      go_enter Tryd.func9, Tryd.ntmps9
      go_wp2_with fail
      refine (CA.out _ HB.out).mono ?_
      rintro e w1 ⟨rfl, hb1⟩
      have HB1 : Hid (Below w.heap.size w w1) := bel2 HB.out hb1
      have HR1 : Hid _ := carry HR.out hb1
      have HA1 : Hid _ := carry HA.out hb1
      have HX1 : Hid _ := carry HX.out hb1
      obtain ⟨q0, q1, q2, q3, qf⟩ := blk4f HX1.out
      clear hb1 HB HR HX HA CA
      go_wp2_with fail
      refine (CX.out _ HB1.out).mono ?_
      rintro e w2 ⟨rfl, hb2⟩
      have HB2 : Hid (Below w.heap.size w w2) := bel2 HB1.out hb2
      have HR2 : Hid _ := carry HR1.out hb2
      obtain ⟨s0, s1, sf⟩ := blk2a (carry HA1.out hb2)
      clear q0 q1 q2 q3 qf
      obtain ⟨q0, q1, q2, q3, qf⟩ := blk4f (carry HX1.out hb2)
      clear hb2 HB1 HR1 HA1 HX1 CX
      go_wp2_with fail
      refine (C92.out _ HB2.out).mono ?_
      rintro e w4 ⟨ul, uk, rfl, hol, hok, hb4⟩
      have HB5 : Hid (Below w.heap.size w w4) := bel2 HB2.out hb4
      have HR5 : Hid _ := carry HR2.out hb4
      have HOL : Hid (OLs w.heap.size w4 ul L2) := hol.mono HB2.out.size
      have HOK : Hid (OT w.heap.size w4 uk K2) := NU.own_mono hok HB2.out.size
      obtain ⟨x1, y1, z1, rfl⟩ := agg_form hol
      obtain ⟨x2, y2, z2, rfl⟩ := ot_form hok
      clear hol hok hb4 HB2 HR2 C92 q0 q1 q2 q3 qf s0 s1 sf
      obtain ⟨r0, r1, r2, rf⟩ := blk3a HR5.out
      go_wp2
      have hb1 := AB.heap_set (i := 0) (v := .slice x1 y1 z1) HR5.out (by show 0 < 3; omega)
      have hb2 := AB.heap_set (i := 1) (v := .slice x2 y2 z2) hb1 (by show 1 < 3; omega)
      have hT : (33 : TypeId) ≠ 29 ∧ (33 : TypeId) ≠ 2 := by decide
      refine bodyPost_ret (v := .agg #[.slice x1 y1 z1, .slice x2 y2 z2, .int .i64 cd]) (by simp [results, Tryd.results9, go_sem, r0, r1, r2]) rfl ⟨_, _, rfl, ?_, ?_, ?_⟩
      · exact ols_set (ols_set (ols_set HOL.out HR5.out hT) hb1 hT) hb2 hT
      · exact row_set (row_set (row_set HOK.out HR5.out (by decide)) hb1 (by decide)) hb2 (by decide)
      · exact ((HB5.out.setCell (by show w.heap.size ≤ w.heap.size + 1 + 1; omega) _).setCell (by show w.heap.size ≤ w.heap.size + 1 + 1; omega) _).setCell (by show w.heap.size ≤ w.heap.size + 1 + 1; omega) _
end Go.Proofs.YtkpjdmmgdmbmnaaDoor.IM
