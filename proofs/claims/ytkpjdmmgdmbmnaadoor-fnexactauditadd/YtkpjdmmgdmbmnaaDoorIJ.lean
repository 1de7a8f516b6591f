/-
  A log copied, and a line added to it, in the specification.
-/
import Derived.Test.YtkpjdmmgdmbmnaaDoorIH
import Derived.Test.YtkpjdmmgdmbmnaaDoorI6
namespace Go.Proofs.YtkpjdmmgdmbmnaaDoor.IJ
open Go.RowKit
open Go.Proofs.YtkpjdmmgdmbmnaaDoor.C0 Go.Proofs.YtkpjdmmgdmbmnaaDoor.HB
open Go.Proofs.YtkpjdmmgdmbmnaaDoor.A0 Go.Proofs.YtkpjdmmgdmbmnaaDoor.A1 Go.Proofs.YtkpjdmmgdmbmnaaDoor.A2 Go.Proofs.YtkpjdmmgdmbmnaaDoor.A3 Go.Proofs.YtkpjdmmgdmbmnaaDoor.A4 Go.Proofs.YtkpjdmmgdmbmnaaDoor.A6 Go.Proofs.YtkpjdmmgdmbmnaaDoor.I1 Go.Proofs.YtkpjdmmgdmbmnaaDoor.I2 Go.Proofs.YtkpjdmmgdmbmnaaDoor.I3 Go.Proofs.YtkpjdmmgdmbmnaaDoor.I4 Go.Proofs.YtkpjdmmgdmbmnaaDoor.I5 Go.Proofs.YtkpjdmmgdmbmnaaDoor.IC Go.Proofs.YtkpjdmmgdmbmnaaDoor.IE Go.Proofs.YtkpjdmmgdmbmnaaDoor.IF Go.Proofs.YtkpjdmmgdmbmnaaDoor.IH
theorem region_cut {P : Program} {ops : Array Oper} {id : Nat} {a : Act} {w : World} {S : World → Prop} {K : Exit → Act → World → Prop} (R : Act → World → Prop) (hm : P.follows .mixedOrders = true) (hS : S w.drew)
    (h : S w.drew → wpAnyH P .any ops (IR.Only R) S ops.size (Array.replicate ops.size false) a w.drew) (hK : ∀ a w, R a w → K .normal a w) : (Code.region id ops true).wp P K a w :=
  Code.wp_mono (fun e a w h => by cases e <;> first | exact hK a w h | exact (h : False).elim) (wp_region_held_drew hm hS h)
theorem oi_form {B : Nat} {w : World} {v : Value} {l : List Int} (h : OIRow B w v l) : ∃ a c, v = .slice a l.length c := by
  obtain ⟨a, c, e, _, _⟩ := h.irow
  exact ⟨a, c, e⟩
theorem take_snoc (ls : List Ln) (k : Nat) (h : k < ls.length) : ls.take (k + 1) = ls.take k ++ [lAt ls k] := by
  rw [List.take_add_one, lAt_get h]; rfl
theorem agg_form {B : Nat} {w : World} {v : Value} {l : List Ln} (h : OLs B w v l) : ∃ x y z, v = .slice x y z := by
  obtain ⟨_, h, _⟩ := h
  rcases h.2 with ⟨h, _⟩ | ⟨_, _, _, h, _⟩ <;> exact ⟨_, _, _, h⟩
theorem ot_form {B : Nat} {w : World} {v : Value} {l : List ByteArray} (h : OT B w v l) : ∃ x y z, v = .slice x y z := by
  rcases h.2 with ⟨h, _⟩ | ⟨_, _, _, h, _⟩ <;> exact ⟨_, _, _, h⟩
set_option maxRecDepth 100000 in
set_option maxHeartbeats 3200000 in
theorem copy_any (va ka : Value) (ls : List Ln) (ks : List ByteArray) (w : World) (hv : LRow w va ls) (hu : SRow w ka ks) (hn : ls.length ≤ 12) (hcn : ∀ k, (lAt ls k).cards.length ≤ 1048576) (hkn : ks.length ≤ 12) :
    Calls Tryd.prog 80 #[.agg #[va, ka]] w fun e w' => ∃ ul uk, e = .returned (.agg #[ul, uk]) ∧ OLs w.heap.size w' ul ls ∧ OT w.heap.size w' uk ks ∧ Below w.heap.size w w' := by
  obtain ⟨i0, hi, hz0, hz1, hz2⟩ := info_parts I1.info_str
  have hv' := hv
  have hu' := hu
  obtain ⟨a1, c1, rfl, hl1, _⟩ := hv
  obtain ⟨a2, c2, rfl, _, _⟩ := hu
  have h1 := albel w (.cells #[.slice a1 ls.length c1, .slice a2 ks.length c2] 26)
  have h2 := h1.alloc h1.size (.cells #[.slice none 0 0, .slice none 0 0] 26)
  have h3 := h2.alloc h2.size (.cells #[] 9)
  obtain ⟨-, hsrc⟩ := src_strs (hu'.below h3)
  have hs2 : ((w.alloc (.cells #[.slice a1 ls.length c1, .slice a2 ks.length c2] 26)).alloc (.cells #[.slice none 0 0, .slice none 0 0] 26)).heap.size = w.heap.size + 1 + 1 := by simp
  have hlit := lit_s (w.heap.size + 1 + 1) ((w.alloc (.cells #[.slice a1 ls.length c1, .slice a2 ks.length c2] 26)).alloc (.cells #[.slice none 0 0, .slice none 0 0] 26)) (by rw [hs2]; exact Nat.le_refl _)
  rw [hs2] at hlit
  have KX3 : Hid ((((w.alloc (.cells #[.slice a1 ls.length c1, .slice a2 ks.length c2] 26)).alloc (.cells #[.slice none 0 0, .slice none 0 0] 26)).alloc (.cells #[] 9)).heap[w.heap.size]? = some (.cells #[.slice a1 ls.length c1, .slice a2 ks.length c2] 26 (0, 0))) := carryA (carryA (heap_alloc_new w _) _) _
  have KR3 : Hid ((((w.alloc (.cells #[.slice a1 ls.length c1, .slice a2 ks.length c2] 26)).alloc (.cells #[.slice none 0 0, .slice none 0 0] 26)).alloc (.cells #[] 9)).heap[w.heap.size + 1]? = some (.cells #[.slice none 0 0, .slice none 0 0] 26 (0, 0))) := by
    have q := heap_alloc_new (w.alloc (.cells #[.slice a1 ls.length c1, .slice a2 ks.length c2] 26)) (.cells #[.slice none 0 0, .slice none 0 0] 26)
    rw [asz] at q
    exact carryA q _
  go_enter Tryd.func80, Tryd.ntmps80
  go_wp2_with (first
    | (at_builtin; refine wpList_copy _ rfl _ _ 24 rfl 9 i0 (.string ⟨#[]⟩) 1 16 Tryd.underlying24 hi hz0 hz1 hz2 rfl (by decide) (w.heap.size + 1 + 1) (w.heap.size + 1 + 1) rfl hlit _ _ _ rfl (ks.map Value.string) (cs_length ks) hsrc (one_cs ks) (by unfold maxLen; omega) (by omega) (by simp) ?_; intro a' c' w1 hown hg; have kx := (hg.block w.heap.size (by simp; omega) (by simp; omega)).trans KX3.out; have kr := (hg.block (w.heap.size + 1) (by simp) (by simp)).trans KR3.out; have HB1 : Hid (Below w.heap.size w w1) := h3.grown hg (by simp; omega) (fun k h => by cases h; omega); have HO : Hid (OT w.heap.size w1 (.slice a' ks.length c') ks) := NU.own_mono hown (by omega); clear hown hg))
  have HX : Hid _ := carryA kx (.cells #[.slice none 0 0, .slice a' ks.length c'] 26)
  have HR : Hid _ := carryA kr (.cells #[.slice none 0 0, .slice a' ks.length c'] 26)
  have HV : Hid _ := heap_alloc_new w1 (.cells #[.slice none 0 0, .slice a' ks.length c'] 26)
  have HBW : Hid (Below w.heap.size w (w1.alloc (.cells #[.slice none 0 0, .slice a' ks.length c'] 26))) := HB1.out.alloc HB1.out.size _
  have HOT : Hid (OT w.heap.size (w1.alloc (.cells #[.slice none 0 0, .slice a' ks.length c'] 26)) (.slice a' ks.length c') ks) := NU.own_below HO.out (albel _ _)
  have hgB : w.heap.size + 1 < w1.heap.size := (Array.getElem?_eq_some_iff.1 kr).1
  clear kx kr HB1 HO h1 h2 h3 hs2 hlit KX3 KR3 hsrc
  generalize w1.alloc (.cells #[.slice none 0 0, .slice a' ks.length c'] 26) = W1 at *
  generalize hgBe : w1.heap.size = gB at *
  clear hgBe
  go_loopw [4] (fun i y => ∃ k : Nat, k ≤ ls.length ∧ i = .int .i64 (k : Nat) ∧ ∃ tl, y.heap[gB]? = some (.cells #[tl, .slice a' ks.length c'] 26 (0, 0)) ∧ OLs w.heap.size y tl (ls.take k) ∧ OT w.heap.size y (.slice a' ks.length c') ks ∧
    y.heap[w.heap.size]? = some (.cells #[.slice a1 ls.length c1, .slice a2 ks.length c2] 26 (0, 0)) ∧ y.heap[w.heap.size + 1]? = some (.cells #[.slice none 0 0, .slice none 0 0] 26 (0, 0)) ∧ Below w.heap.size w y) (fun i _ => ls.length - (intOf i).toNat)
  case atStart => exact ⟨0, Nat.zero_le _, rfl, _, HV.out, OLs.nil _ _, HOT.out, HX.out, HR.out, HBW.out⟩
  case round =>
    clear HV HOT HX HR HBW
    obtain ⟨k, hk0, rfl, tl, b3, ho, hk, bx, br, hB⟩ := hrel
    obtain ⟨x1, y1, z1, rfl⟩ := agg_form ho
    by_cases hlt : k < ls.length
    · have hlt' : (k : Int) < (ls.length : Int) := by omega
      obtain ⟨b, off, rfl, hb, vc, hic, p0, p1, p2, p3⟩ := I6.lrow_at hv' hlt
      have hck := hcn k
      have HTK : Hid (ls.take (k + 1) = ls.take k ++ [lAt ls k]) := take_snoc ls k hlt
      have hLl : (ls.take k).length ≤ 12 := by rw [List.length_take]; omega
      have HCL : Hid (∀ Y, Below w.heap.size w Y → Calls Tryd.prog 81 #[lnV (lAt ls k) vc] Y fun e w' => ∃ vd, e = .returned (lnV (lAt ls k) vd) ∧ OIRow Y.heap.size w' vd (lAt ls k).cards ∧ Below Y.heap.size Y w') := fun Y hY => copyLine_any _ vc Y (hic.below hY) hck
      obtain ⟨av, cv, rfl, _, _⟩ := hic
      generalize ls.take k = L at *
      unfold lnV at HCL
      generalize lAt ls k = ln at *
      obtain ⟨kind, name, sum, cs⟩ := ln
      dsimp only at *
      obtain ⟨vds, o1, o2, o3⟩ := ho
      have hx1 : ∀ (a3 : Option Addr) (c3 : Nat), ∀ u ∈ four (⟨kind, name, sum, cs⟩, .slice a3 cs.length c3), u.oneCell' = true := fun a3 c3 u hu => by
        simp only [four, List.mem_cons, List.not_mem_nil, or_false] at hu
        rcases hu with rfl | rfl | rfl | rfl <;> rfl
      obtain ⟨q0, q1, qf⟩ := I4.blk2a bx
      have hwB := Array.getElem?_eq_some_iff.1 br
      have KF : Hid (∀ y, Below w.heap.size w y → y.heap[w.heap.size]? = some (.cells #[.slice (some ⟨b, off, none⟩) ls.length c1, .slice a2 ks.length c2] 26 (0, 0)) → y.cell? ⟨w.heap.size, 0, none⟩ = some (.slice (some ⟨b, off, none⟩) ls.length c1) ∧ y.cell? ⟨b, off + k * 4, none⟩ = some (.int .i64 kind) ∧ y.cell? ⟨b, off + k * 4 + 1, none⟩ = some (.string name) ∧ y.cell? ⟨b, off + k * 4 + 2, none⟩ = some (.string sum) ∧ y.cell? ⟨b, off + k * 4 + 3, none⟩ = some (.slice av cs.length cv)) := fun y hy hx => ⟨block_cell hx 0, (hy.cell (p := ⟨b, off + k * 4, none⟩) hb).trans p0, (hy.cell (p := ⟨b, off + k * 4 + 1, none⟩) hb).trans p1, (hy.cell (p := ⟨b, off + k * 4 + 2, none⟩) hb).trans p2, (hy.cell (p := ⟨b, off + k * 4 + 3, none⟩) hb).trans p3⟩
      have hgB1 : w.heap.size ≤ gB := by omega
      have hgne : w.heap.size ≠ gB := by omega
      go_upto_region 5 with fail
      refine region_cut (S := fun y => (y.cell? ⟨w.heap.size, 0, none⟩ = some (.slice (some ⟨b, off, none⟩) ls.length c1) ∧ y.cell? ⟨b, off + k * 4, none⟩ = some (.int .i64 kind) ∧ y.cell? ⟨b, off + k * 4 + 1, none⟩ = some (.string name) ∧ y.cell? ⟨b, off + k * 4 + 2, none⟩ = some (.string sum) ∧ y.cell? ⟨b, off + k * 4 + 3, none⟩ = some (.slice av cs.length cv))) (fun a2' y => ∃ q17 q18 q19 q20 q21 q22 q23 q24 q25 q26 q27 gg cap1, a2' = { tmps := #[.agg #[.slice (some ⟨b, off, none⟩) ls.length c1, .slice a2 ks.length c2], .pointer (some ⟨w.heap.size, 0, none⟩), .pointer (some ⟨w.heap.size + 1, 0, none⟩), .pointer (some ⟨gB, 0, none⟩), .int .i64 k, .slice (some ⟨w.heap.size + 1 + 1, 0, none⟩) 0 0, .pointer (some ⟨w.heap.size, 1, none⟩), .slice a2 ks.length c2, .slice a' ks.length c', .agg #[.slice none 0 0, .slice a' ks.length c'], .int .i64 k, .pointer (some ⟨w.heap.size, 0, none⟩), .slice (some ⟨b, off, none⟩) ls.length c1, .int .i64 ls.length, .bool true, u15, u16, q17, q18, q19, q20, q21, q22, q23, q24, q25, q26, q27, undef], defers := [] } ∧ y.heap[gB]? = some (.cells #[.slice (some ⟨gg, 0, none⟩) (L.length + 1) cap1, .slice a' ks.length c'] 26 (0, 0)) ∧ OLs w.heap.size y (.slice (some ⟨gg, 0, none⟩) (L.length + 1) cap1) (L ++ [⟨kind, name, sum, cs⟩]) ∧ OT w.heap.size y (.slice a' ks.length c') ks ∧ (∀ (g : Nat) (cs : Array Value) (T : TypeId), wr.heap[g]? = some (Obj.cells cs T (0, 0)) → T ≠ 29 → g ≠ gB → y.heap[g]? = wr.heap[g]?) ∧ Below w.heap.size w y) (by kernel_rfl) (KF.out _ hB.drew bx) ?_ ?_
      · intro hHeld
        have hbw : Below w.heap.size w wr.drew := hB.drew
        have hbW : Below wr.heap.size wr wr.drew := (Below.refl _ _).drew
        have b3 : wr.drew.heap[gB]? = some (.cells #[.slice x1 y1 z1, .slice a' ks.length c'] 26 (0, 0)) := b3
        obtain ⟨v0, v1, vf⟩ := I4.blk2a b3
        clear q0 q1 qf
        generalize wr.drew = V1 at *
        refine TK.take_at 0 (some 17) (v := ?vr0) rfl rfl (by kernel_rfl) (by kernel_rfl) (by kernel_rfl) (fun _ _ _ h => h) (Or.inl ⟨rfl, ?hr0⟩) hHeld ?rr0
        case hr0 => intro wq hSw; (try dsimp only at hSw); go_simp; all_goals (with_reducible rfl)
        try simp only [Act.put, List.setIfInBounds_toArray, List.set_cons_zero, List.set_cons_succ]
        refine TK.take_at 2 (some 19) (v := ?vr2) rfl rfl (by kernel_rfl) (by kernel_rfl) (by kernel_rfl) (fun _ _ _ h => h) (Or.inl ⟨rfl, ?hr2⟩) hHeld ?rr2
        case hr2 => intro wq hSw; (try dsimp only at hSw); go_simp; all_goals (with_reducible rfl)
        try simp only [Act.put, List.setIfInBounds_toArray, List.set_cons_zero, List.set_cons_succ]
        refine TK.take_at 3 (some 20) (v := ?vr3) rfl rfl (by kernel_rfl) (by kernel_rfl) (by kernel_rfl) (fun _ _ _ h => h) (Or.inl ⟨rfl, ?hr3⟩) hHeld ?rr3
        case hr3 => intro wq hSw; (try dsimp only at hSw); go_simp; all_goals (with_reducible rfl)
        try simp only [Act.put, List.setIfInBounds_toArray, List.set_cons_zero, List.set_cons_succ]
        refine TK.take_at 4 (some 21) (v := ?vr4) rfl rfl (by kernel_rfl) (by kernel_rfl) (by kernel_rfl) (fun _ _ _ h => h) (Or.inl ⟨rfl, ?hr4⟩) hHeld ?rr4
        case hr4 => intro wq hSw; (try dsimp only at hSw); go_simp; all_goals (with_reducible rfl)
        try simp only [Act.put, List.setIfInBounds_toArray, List.set_cons_zero, List.set_cons_succ]
        refine TK.take_at 5 (some 22) (v := ?vr5) rfl rfl (by kernel_rfl) (by kernel_rfl) (by kernel_rfl) (fun _ _ _ h => h) (Or.inl ⟨rfl, ?hr5⟩) hHeld ?rr5
        case hr5 => intro wq hSw; (try dsimp only at hSw); go_simp; all_goals (with_reducible rfl)
        try simp only [Act.put, List.setIfInBounds_toArray, List.set_cons_zero, List.set_cons_succ]
        refine TK.take_at 6 (some 23) (v := ?vr6) rfl rfl (by kernel_rfl) (by kernel_rfl) (by kernel_rfl) (fun _ _ _ h => h) (Or.inl ⟨rfl, ?hr6⟩) hHeld ?rr6
        case hr6 => intro wq hSw; (try dsimp only at hSw); go_simp; all_goals (with_reducible rfl)
        try simp only [Act.put, List.setIfInBounds_toArray, List.set_cons_zero, List.set_cons_succ]
        refine wpAnyH_ready (rs := [1, 7]) (by kernel_rfl) (by simp) ?_
        refine AllReadyH.cons rfl (fun K hK => ?_) (AllReadyH.cons rfl (fun K hK => ?_) AllReadyH.nil)
        · go_simp
          skip
          try (go_wp2_with fail)
          refine hK.out _ _ ?_ (fun hHeld => ?_)
          · exact (by first | exact KF.out _ hbw (carry bx hbW) | exact KF.out _ hbn bxn | exact KF.out _ (hbn.setCell (p := ⟨gB, 0, none⟩) hgB1 _) ((heap_setCell_other _ _ _ _ hgne).trans bxn))
          clear hK K
          try simp only [Act.put, List.setIfInBounds_toArray, List.set_cons_zero, List.set_cons_succ]
          refine wpAnyH_ready (rs := [7]) (by kernel_rfl) (by simp) ?_
          refine AllReadyH.cons rfl (fun K hK => ?_) AllReadyH.nil
          go_simp
          (go_at_call 81; refine (HCL.out _ hbw).mono ?_; rintro e V2 ⟨vd, rfl, ho3, hq⟩; have hbw := bel2 hbw hq; have b3 := (hq.block _ (Array.getElem?_eq_some_iff.1 b3).1).trans b3; have ho3 : OIRow wr.heap.size V2 vd cs := NU.own_mono ho3 hbW.size; have hbW := bel2 hbW hq; clear hq; obtain ⟨a3, c3, rfl⟩ := oi_form ho3; obtain ⟨v0, v1, vf⟩ := I4.blk2a b3)
          try (go_wp2_with fail)
          refine hK.out _ _ ?_ (fun hHeld => ?_)
          · exact (by first | exact KF.out _ hbw (carry bx hbW) | exact KF.out _ hbn bxn | exact KF.out _ (hbn.setCell (p := ⟨gB, 0, none⟩) hgB1 _) ((heap_setCell_other _ _ _ _ hgne).trans bxn))
          clear hK K
          try simp only [Act.put, List.setIfInBounds_toArray, List.set_cons_zero, List.set_cons_succ]
          refine wpAnyH_ready (rs := [8]) (by kernel_rfl) (by simp) ?_
          refine AllReadyH.cons rfl (fun K hK => ?_) AllReadyH.nil
          go_simp
          (have b3 := carryA b3 (.cells #[.int .i64 kind, .string name, .string sum, .slice a3 cs.length c3] 29); have hnews := block4 V2 (⟨kind, name, sum, cs⟩, .slice a3 cs.length c3) 29; have hb4 := albel V2 (.cells #[.int .i64 kind, .string name, .string sum, .slice a3 cs.length c3] 29); have hbw := bel2 hbw hb4; have hbW := bel2 hbW hb4; have ho3 := A6.OIRow.below ho3 hb4; clear hb4; dsimp only at hnews; generalize V2.alloc (.cells #[.int .i64 kind, .string name, .string sum, .slice a3 cs.length c3] 29) = V3 at *; generalize V2.heap.size = g3 at *; clear v0 v1 vf; obtain ⟨v0, v1, vf⟩ := I4.blk2a b3)
          try (go_wp2_with fail)
          refine hK.out _ _ ?_ (fun hHeld => ?_)
          · exact (by first | exact KF.out _ hbw (carry bx hbW) | exact KF.out _ hbn bxn | exact KF.out _ (hbn.setCell (p := ⟨gB, 0, none⟩) hgB1 _) ((heap_setCell_other _ _ _ _ hgne).trans bxn))
          clear hK K
          try simp only [Act.put, List.setIfInBounds_toArray, List.set_cons_zero, List.set_cons_succ]
          refine wpAnyH_ready (rs := [9]) (by kernel_rfl) (by simp) ?_
          refine AllReadyH.cons rfl (fun K hK => ?_) AllReadyH.nil
          (have o4 := NU.own_below o1 hbW; refine NU.step_app (by rfl) _ _ 23 29 (by rfl) w.heap.size (.agg #[.int .i64 0, .string ⟨#[]⟩, .string ⟨#[]⟩, .slice none 0 0]) 4 64 Tryd.underlying23 IE.info_line (by rfl) (by decide) (by decide) (.slice x1 y1 z1) _ _ (by rfl) o4 (by omega) ⟨g3, 0, none⟩ 1 (four (⟨kind, name, sum, cs⟩, .slice a3 cs.length c3)) (by rfl) (by rfl) hnews (hx1 _ _) hbw.size ?_; intro gg cap1 xn hown1 hgrow hat hlt1; have b3n := blk_grown b3 o4 hgrow (by decide); clear v0 v1 vf; obtain ⟨v0, v1, vf⟩ := I4.blk2a b3n; have hbn := NU.grown_bel hbw o4 hgrow hbw.size; have bxn := blk_grown (carry bx hbW) o4 hgrow (by decide))
          refine hK.out _ _ ?_ (fun hHeld => ?_)
          · exact (by first | exact KF.out _ hbw (carry bx hbW) | exact KF.out _ hbn bxn | exact KF.out _ (hbn.setCell (p := ⟨gB, 0, none⟩) hgB1 _) ((heap_setCell_other _ _ _ _ hgne).trans bxn))
          clear hK K
          (try simp only [Act.put]); (try simp only [List.setIfInBounds_toArray]); (try simp only [List.set_cons_succ]); (try simp only [List.set_cons_zero])
          refine TK.take_at 10 (some 27) (v := ?vr110) rfl rfl (by kernel_rfl) (by kernel_rfl) (by kernel_rfl) (fun _ _ _ h => h) (Or.inl ⟨rfl, ?hr110⟩) hHeld ?rr110
          case hr110 => intro wq hSw; (try dsimp only at hSw); go_simp; all_goals (with_reducible rfl)
          (try simp only [Act.put]); (try simp only [List.setIfInBounds_toArray]); (try simp only [List.set_cons_succ]); (try simp only [List.set_cons_zero])
          refine wpAnyH_ready (rs := [11]) (by kernel_rfl) (by simp) ?_
          refine AllReadyH.cons rfl (fun K hK => ?_) AllReadyH.nil
          go_simp
          skip
          try (go_wp2_with fail)
          refine hK.out _ _ ?_ (fun hHeld => ?_)
          · exact (by first | exact KF.out _ hbw (carry bx hbW) | exact KF.out _ hbn bxn | exact KF.out _ (hbn.setCell (p := ⟨gB, 0, none⟩) hgB1 _) ((heap_setCell_other _ _ _ _ hgne).trans bxn))
          clear hK K
          (try simp only [Act.put]); (try simp only [List.setIfInBounds_toArray]); (try simp only [List.set_cons_succ]); (try simp only [List.set_cons_zero])
          refine wpAnyH_done (by kernel_rfl) ?_ _
          refine ⟨_, _, _, _, _, _, _, _, _, _, _, gg, cap1, rfl, ?_⟩
          have hnewd : ∀ i, i < L.length → ∀ g, (vds i).ownBlock = some g → (Value.slice a3 cs.length c3).ownBlock ≠ some g := fun i hi g hg e => by
            have e1 := ((o2 i hi).lt g hg).2
            have e2 := (ho3.lt g e).1
            omega
          have hx4 : OIRow w.heap.size xn (.slice a3 cs.length c3) cs := NU.own_mono (row_grown ho3 o4 hgrow (by decide)) hB.size
          have hbase := NU.grown_bel hbw o4 hgrow hbw.size
          have hgk : ∀ (g : Nat) (cs : Array Value) (T : TypeId), wr.heap[g]? = some (Obj.cells cs T (0, 0)) → T ≠ 29 → g ≠ gB → (xn.setCell ⟨gB, 0, none⟩ (.slice (some ⟨gg, 0, none⟩) (L.length + 1) cap1)).heap[g]? = wr.heap[g]? := fun g cs T hg hT hne => by
            rw [heap_setCell_other _ _ _ _ hne, blk_grown (carry hg hbW) o4 hgrow hT, hg]
          exact ⟨AB.heap_set (i := 0) b3n (by show 0 < 2; omega), OLs.snoc (row_set hown1 b3n (by decide)) (fun k hk => row_set (row_grown (A6.OIRow.below (o2 k hk) hbW) o4 hgrow (by decide)) b3n (by decide)) (row_set hx4 b3n (by decide)) o3 hnewd, row_set (row_grown (NU.own_below hk hbW) o4 hgrow (by decide)) b3n (by decide), hgk, hbase.setCell (p := ⟨gB, 0, none⟩) hgB1 _⟩
        · go_simp
          (go_at_call 81; refine (HCL.out _ hbw).mono ?_; rintro e V2 ⟨vd, rfl, ho3, hq⟩; have hbw := bel2 hbw hq; have b3 := (hq.block _ (Array.getElem?_eq_some_iff.1 b3).1).trans b3; have ho3 : OIRow wr.heap.size V2 vd cs := NU.own_mono ho3 hbW.size; have hbW := bel2 hbW hq; clear hq; obtain ⟨a3, c3, rfl⟩ := oi_form ho3; obtain ⟨v0, v1, vf⟩ := I4.blk2a b3)
          try (go_wp2_with fail)
          refine hK.out _ _ ?_ (fun hHeld => ?_)
          · exact (by first | exact KF.out _ hbw (carry bx hbW) | exact KF.out _ hbn bxn | exact KF.out _ (hbn.setCell (p := ⟨gB, 0, none⟩) hgB1 _) ((heap_setCell_other _ _ _ _ hgne).trans bxn))
          clear hK K
          try simp only [Act.put, List.setIfInBounds_toArray, List.set_cons_zero, List.set_cons_succ]
          refine wpAnyH_ready (rs := [1, 8]) (by kernel_rfl) (by simp) ?_
          refine AllReadyH.cons rfl (fun K hK => ?_) (AllReadyH.cons rfl (fun K hK => ?_) AllReadyH.nil)
          · go_simp
            skip
            try (go_wp2_with fail)
            refine hK.out _ _ ?_ (fun hHeld => ?_)
            · exact (by first | exact KF.out _ hbw (carry bx hbW) | exact KF.out _ hbn bxn | exact KF.out _ (hbn.setCell (p := ⟨gB, 0, none⟩) hgB1 _) ((heap_setCell_other _ _ _ _ hgne).trans bxn))
            clear hK K
            try simp only [Act.put, List.setIfInBounds_toArray, List.set_cons_zero, List.set_cons_succ]
            refine wpAnyH_ready (rs := [8]) (by kernel_rfl) (by simp) ?_
            refine AllReadyH.cons rfl (fun K hK => ?_) AllReadyH.nil
            go_simp
            (have b3 := carryA b3 (.cells #[.int .i64 kind, .string name, .string sum, .slice a3 cs.length c3] 29); have hnews := block4 V2 (⟨kind, name, sum, cs⟩, .slice a3 cs.length c3) 29; have hb4 := albel V2 (.cells #[.int .i64 kind, .string name, .string sum, .slice a3 cs.length c3] 29); have hbw := bel2 hbw hb4; have hbW := bel2 hbW hb4; have ho3 := A6.OIRow.below ho3 hb4; clear hb4; dsimp only at hnews; generalize V2.alloc (.cells #[.int .i64 kind, .string name, .string sum, .slice a3 cs.length c3] 29) = V3 at *; generalize V2.heap.size = g3 at *; clear v0 v1 vf; obtain ⟨v0, v1, vf⟩ := I4.blk2a b3)
            try (go_wp2_with fail)
            refine hK.out _ _ ?_ (fun hHeld => ?_)
            · exact (by first | exact KF.out _ hbw (carry bx hbW) | exact KF.out _ hbn bxn | exact KF.out _ (hbn.setCell (p := ⟨gB, 0, none⟩) hgB1 _) ((heap_setCell_other _ _ _ _ hgne).trans bxn))
            clear hK K
            try simp only [Act.put, List.setIfInBounds_toArray, List.set_cons_zero, List.set_cons_succ]
            refine wpAnyH_ready (rs := [9]) (by kernel_rfl) (by simp) ?_
            refine AllReadyH.cons rfl (fun K hK => ?_) AllReadyH.nil
            (have o4 := NU.own_below o1 hbW; refine NU.step_app (by rfl) _ _ 23 29 (by rfl) w.heap.size (.agg #[.int .i64 0, .string ⟨#[]⟩, .string ⟨#[]⟩, .slice none 0 0]) 4 64 Tryd.underlying23 IE.info_line (by rfl) (by decide) (by decide) (.slice x1 y1 z1) _ _ (by rfl) o4 (by omega) ⟨g3, 0, none⟩ 1 (four (⟨kind, name, sum, cs⟩, .slice a3 cs.length c3)) (by rfl) (by rfl) hnews (hx1 _ _) hbw.size ?_; intro gg cap1 xn hown1 hgrow hat hlt1; have b3n := blk_grown b3 o4 hgrow (by decide); clear v0 v1 vf; obtain ⟨v0, v1, vf⟩ := I4.blk2a b3n; have hbn := NU.grown_bel hbw o4 hgrow hbw.size; have bxn := blk_grown (carry bx hbW) o4 hgrow (by decide))
            refine hK.out _ _ ?_ (fun hHeld => ?_)
            · exact (by first | exact KF.out _ hbw (carry bx hbW) | exact KF.out _ hbn bxn | exact KF.out _ (hbn.setCell (p := ⟨gB, 0, none⟩) hgB1 _) ((heap_setCell_other _ _ _ _ hgne).trans bxn))
            clear hK K
            (try simp only [Act.put]); (try simp only [List.setIfInBounds_toArray]); (try simp only [List.set_cons_succ]); (try simp only [List.set_cons_zero])
            refine TK.take_at 10 (some 27) (v := ?vr210) rfl rfl (by kernel_rfl) (by kernel_rfl) (by kernel_rfl) (fun _ _ _ h => h) (Or.inl ⟨rfl, ?hr210⟩) hHeld ?rr210
            case hr210 => intro wq hSw; (try dsimp only at hSw); go_simp; all_goals (with_reducible rfl)
            (try simp only [Act.put]); (try simp only [List.setIfInBounds_toArray]); (try simp only [List.set_cons_succ]); (try simp only [List.set_cons_zero])
            refine wpAnyH_ready (rs := [11]) (by kernel_rfl) (by simp) ?_
            refine AllReadyH.cons rfl (fun K hK => ?_) AllReadyH.nil
            go_simp
            skip
            try (go_wp2_with fail)
            refine hK.out _ _ ?_ (fun hHeld => ?_)
            · exact (by first | exact KF.out _ hbw (carry bx hbW) | exact KF.out _ hbn bxn | exact KF.out _ (hbn.setCell (p := ⟨gB, 0, none⟩) hgB1 _) ((heap_setCell_other _ _ _ _ hgne).trans bxn))
            clear hK K
            (try simp only [Act.put]); (try simp only [List.setIfInBounds_toArray]); (try simp only [List.set_cons_succ]); (try simp only [List.set_cons_zero])
            refine wpAnyH_done (by kernel_rfl) ?_ _
            refine ⟨_, _, _, _, _, _, _, _, _, _, _, gg, cap1, rfl, ?_⟩
            have hnewd : ∀ i, i < L.length → ∀ g, (vds i).ownBlock = some g → (Value.slice a3 cs.length c3).ownBlock ≠ some g := fun i hi g hg e => by
              have e1 := ((o2 i hi).lt g hg).2
              have e2 := (ho3.lt g e).1
              omega
            have hx4 : OIRow w.heap.size xn (.slice a3 cs.length c3) cs := NU.own_mono (row_grown ho3 o4 hgrow (by decide)) hB.size
            have hbase := NU.grown_bel hbw o4 hgrow hbw.size
            have hgk : ∀ (g : Nat) (cs : Array Value) (T : TypeId), wr.heap[g]? = some (Obj.cells cs T (0, 0)) → T ≠ 29 → g ≠ gB → (xn.setCell ⟨gB, 0, none⟩ (.slice (some ⟨gg, 0, none⟩) (L.length + 1) cap1)).heap[g]? = wr.heap[g]? := fun g cs T hg hT hne => by
              rw [heap_setCell_other _ _ _ _ hne, blk_grown (carry hg hbW) o4 hgrow hT, hg]
            exact ⟨AB.heap_set (i := 0) b3n (by show 0 < 2; omega), OLs.snoc (row_set hown1 b3n (by decide)) (fun k hk => row_set (row_grown (A6.OIRow.below (o2 k hk) hbW) o4 hgrow (by decide)) b3n (by decide)) (row_set hx4 b3n (by decide)) o3 hnewd, row_set (row_grown (NU.own_below hk hbW) o4 hgrow (by decide)) b3n (by decide), hgk, hbase.setCell (p := ⟨gB, 0, none⟩) hgB1 _⟩
          · go_simp
            (have b3 := carryA b3 (.cells #[.int .i64 kind, .string name, .string sum, .slice a3 cs.length c3] 29); have hnews := block4 V2 (⟨kind, name, sum, cs⟩, .slice a3 cs.length c3) 29; have hb4 := albel V2 (.cells #[.int .i64 kind, .string name, .string sum, .slice a3 cs.length c3] 29); have hbw := bel2 hbw hb4; have hbW := bel2 hbW hb4; have ho3 := A6.OIRow.below ho3 hb4; clear hb4; dsimp only at hnews; generalize V2.alloc (.cells #[.int .i64 kind, .string name, .string sum, .slice a3 cs.length c3] 29) = V3 at *; generalize V2.heap.size = g3 at *; clear v0 v1 vf; obtain ⟨v0, v1, vf⟩ := I4.blk2a b3)
            try (go_wp2_with fail)
            refine hK.out _ _ ?_ (fun hHeld => ?_)
            · exact (by first | exact KF.out _ hbw (carry bx hbW) | exact KF.out _ hbn bxn | exact KF.out _ (hbn.setCell (p := ⟨gB, 0, none⟩) hgB1 _) ((heap_setCell_other _ _ _ _ hgne).trans bxn))
            clear hK K
            try simp only [Act.put, List.setIfInBounds_toArray, List.set_cons_zero, List.set_cons_succ]
            refine wpAnyH_ready (rs := [1]) (by kernel_rfl) (by simp) ?_
            refine AllReadyH.cons rfl (fun K hK => ?_) AllReadyH.nil
            go_simp
            skip
            try (go_wp2_with fail)
            refine hK.out _ _ ?_ (fun hHeld => ?_)
            · exact (by first | exact KF.out _ hbw (carry bx hbW) | exact KF.out _ hbn bxn | exact KF.out _ (hbn.setCell (p := ⟨gB, 0, none⟩) hgB1 _) ((heap_setCell_other _ _ _ _ hgne).trans bxn))
            clear hK K
            try simp only [Act.put, List.setIfInBounds_toArray, List.set_cons_zero, List.set_cons_succ]
            refine wpAnyH_ready (rs := [9]) (by kernel_rfl) (by simp) ?_
            refine AllReadyH.cons rfl (fun K hK => ?_) AllReadyH.nil
            (have o4 := NU.own_below o1 hbW; refine NU.step_app (by rfl) _ _ 23 29 (by rfl) w.heap.size (.agg #[.int .i64 0, .string ⟨#[]⟩, .string ⟨#[]⟩, .slice none 0 0]) 4 64 Tryd.underlying23 IE.info_line (by rfl) (by decide) (by decide) (.slice x1 y1 z1) _ _ (by rfl) o4 (by omega) ⟨g3, 0, none⟩ 1 (four (⟨kind, name, sum, cs⟩, .slice a3 cs.length c3)) (by rfl) (by rfl) hnews (hx1 _ _) hbw.size ?_; intro gg cap1 xn hown1 hgrow hat hlt1; have b3n := blk_grown b3 o4 hgrow (by decide); clear v0 v1 vf; obtain ⟨v0, v1, vf⟩ := I4.blk2a b3n; have hbn := NU.grown_bel hbw o4 hgrow hbw.size; have bxn := blk_grown (carry bx hbW) o4 hgrow (by decide))
            refine hK.out _ _ ?_ (fun hHeld => ?_)
            · exact (by first | exact KF.out _ hbw (carry bx hbW) | exact KF.out _ hbn bxn | exact KF.out _ (hbn.setCell (p := ⟨gB, 0, none⟩) hgB1 _) ((heap_setCell_other _ _ _ _ hgne).trans bxn))
            clear hK K
            (try simp only [Act.put]); (try simp only [List.setIfInBounds_toArray]); (try simp only [List.set_cons_succ]); (try simp only [List.set_cons_zero])
            refine TK.take_at 10 (some 27) (v := ?vr310) rfl rfl (by kernel_rfl) (by kernel_rfl) (by kernel_rfl) (fun _ _ _ h => h) (Or.inl ⟨rfl, ?hr310⟩) hHeld ?rr310
            case hr310 => intro wq hSw; (try dsimp only at hSw); go_simp; all_goals (with_reducible rfl)
            (try simp only [Act.put]); (try simp only [List.setIfInBounds_toArray]); (try simp only [List.set_cons_succ]); (try simp only [List.set_cons_zero])
            refine wpAnyH_ready (rs := [11]) (by kernel_rfl) (by simp) ?_
            refine AllReadyH.cons rfl (fun K hK => ?_) AllReadyH.nil
            go_simp
            skip
            try (go_wp2_with fail)
            refine hK.out _ _ ?_ (fun hHeld => ?_)
            · exact (by first | exact KF.out _ hbw (carry bx hbW) | exact KF.out _ hbn bxn | exact KF.out _ (hbn.setCell (p := ⟨gB, 0, none⟩) hgB1 _) ((heap_setCell_other _ _ _ _ hgne).trans bxn))
            clear hK K
            (try simp only [Act.put]); (try simp only [List.setIfInBounds_toArray]); (try simp only [List.set_cons_succ]); (try simp only [List.set_cons_zero])
            refine wpAnyH_done (by kernel_rfl) ?_ _
            refine ⟨_, _, _, _, _, _, _, _, _, _, _, gg, cap1, rfl, ?_⟩
            have hnewd : ∀ i, i < L.length → ∀ g, (vds i).ownBlock = some g → (Value.slice a3 cs.length c3).ownBlock ≠ some g := fun i hi g hg e => by
              have e1 := ((o2 i hi).lt g hg).2
              have e2 := (ho3.lt g e).1
              omega
            have hx4 : OIRow w.heap.size xn (.slice a3 cs.length c3) cs := NU.own_mono (row_grown ho3 o4 hgrow (by decide)) hB.size
            have hbase := NU.grown_bel hbw o4 hgrow hbw.size
            have hgk : ∀ (g : Nat) (cs : Array Value) (T : TypeId), wr.heap[g]? = some (Obj.cells cs T (0, 0)) → T ≠ 29 → g ≠ gB → (xn.setCell ⟨gB, 0, none⟩ (.slice (some ⟨gg, 0, none⟩) (L.length + 1) cap1)).heap[g]? = wr.heap[g]? := fun g cs T hg hT hne => by
              rw [heap_setCell_other _ _ _ _ hne, blk_grown (carry hg hbW) o4 hgrow hT, hg]
            exact ⟨AB.heap_set (i := 0) b3n (by show 0 < 2; omega), OLs.snoc (row_set hown1 b3n (by decide)) (fun k hk => row_set (row_grown (A6.OIRow.below (o2 k hk) hbW) o4 hgrow (by decide)) b3n (by decide)) (row_set hx4 b3n (by decide)) o3 hnewd, row_set (row_grown (NU.own_below hk hbW) o4 hgrow (by decide)) b3n (by decide), hgk, hbase.setCell (p := ⟨gB, 0, none⟩) hgB1 _⟩
      · rintro a2' y ⟨q17, q18, q19, q20, q21, q22, q23, q24, q25, q26, q27, gg, cap1, rfl, hb3, hol, hok, hgk, hby⟩
        have hbx : y.heap[w.heap.size]? = some (.cells #[.slice (some ⟨b, off, none⟩) ls.length c1, .slice a2 ks.length c2] 26 (0, 0)) := (hgk _ _ _ bx (by decide) (by omega)).trans bx
        have hbr : y.heap[w.heap.size + 1]? = some (.cells #[.slice none 0 0, .slice none 0 0] 26 (0, 0)) := (hgk _ _ _ br (by decide) (by omega)).trans br
        have HREL : Hid _ := And.intro hb3 (And.intro hol (And.intro hok (And.intro hbx (And.intro hbr hby))))
        clear hb3 hol hok hbx hbr hby hgk hB bx br b3 hk KF HCL o1 o2 o3 q0 q1 qf
        go_wp2_with fail
        go_roundw
        case rel => exact ⟨k + 1, by omega, by go_num, _, HREL.out.1, (by rw [HTK.out]; exact HREL.out.2.1), HREL.out.2.2⟩
        case measure => simp [intOf]; omega
    · obtain rfl : k = ls.length := by omega
      obtain ⟨q0, q1, qf⟩ := I4.blk2a bx
      obtain ⟨v0, v1, vf⟩ := I4.blk2a b3
      obtain ⟨r0, r1, rf⟩ := I4.blk2a br
      rw [List.take_length] at ho
      have HO : Hid _ := ho
      have HK : Hid _ := hk
      have HB : Hid _ := hB
      have HBR : Hid _ := br
      clear ho hk hB bx b3 br
      go_wp2
      have hb1 := AB.heap_set (i := 0) (v := .slice x1 y1 z1) HBR.out (by show 0 < 2; omega)
      refine bodyPost_ret (v := .agg #[.slice x1 y1 z1, .slice a' ks.length c']) (by simp [results, Tryd.results80, go_sem, r0, r1]) rfl ⟨_, _, rfl, ?_, ?_, ?_⟩
      · exact ols_set (ols_set HO.out HBR.out (by decide)) hb1 (by decide)
      · exact row_set (row_set HK.out HBR.out (by decide)) hb1 (by decide)
      · exact (HB.out.setCell (by show w.heap.size ≤ w.heap.size + 1; omega) _).setCell (by show w.heap.size ≤ w.heap.size + 1; omega) _
end Go.Proofs.YtkpjdmmgdmbmnaaDoor.IJ
