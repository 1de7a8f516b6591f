/-
  A line added to a log, in the specification.
-/
import Derived.Test.YtkpjdmmgdmbmnaaDoorIJ
namespace Go.Proofs.YtkpjdmmgdmbmnaaDoor.IK
open Go.RowKit
open Go.Proofs.YtkpjdmmgdmbmnaaDoor.C0 Go.Proofs.YtkpjdmmgdmbmnaaDoor.HB
open Go.Proofs.YtkpjdmmgdmbmnaaDoor.A0 Go.Proofs.YtkpjdmmgdmbmnaaDoor.A1 Go.Proofs.YtkpjdmmgdmbmnaaDoor.A2 Go.Proofs.YtkpjdmmgdmbmnaaDoor.A3 Go.Proofs.YtkpjdmmgdmbmnaaDoor.A4 Go.Proofs.YtkpjdmmgdmbmnaaDoor.A6 Go.Proofs.YtkpjdmmgdmbmnaaDoor.I1 Go.Proofs.YtkpjdmmgdmbmnaaDoor.I2 Go.Proofs.YtkpjdmmgdmbmnaaDoor.I3 Go.Proofs.YtkpjdmmgdmbmnaaDoor.I4 Go.Proofs.YtkpjdmmgdmbmnaaDoor.I5 Go.Proofs.YtkpjdmmgdmbmnaaDoor.IC Go.Proofs.YtkpjdmmgdmbmnaaDoor.IE Go.Proofs.YtkpjdmmgdmbmnaaDoor.IF Go.Proofs.YtkpjdmmgdmbmnaaDoor.IH Go.Proofs.YtkpjdmmgdmbmnaaDoor.IJ
theorem link_cut (ls : List Ln) (x : Ln) : ∀ k, k < ls.length → linkN (ls ++ [x]) k = linkN ls k
  | 0, h => by
    show digB (boxT ++ textR (lAt (ls ++ [x]) 0)) = digB (boxT ++ textR (lAt ls 0))
    rw [lAt_snoc _ _ _ (by omega), if_pos h]
  | k + 1, h => by
    show digB (linkN (ls ++ [x]) k ++ textR (lAt (ls ++ [x]) (k + 1))) = digB (linkN ls k ++ textR (lAt ls (k + 1)))
    rw [link_cut ls x k (by omega), lAt_snoc _ _ _ (by omega), if_pos h]
theorem prev_cut (ls : List Ln) (x : Ln) (k : Nat) (h : k ≤ ls.length) : prevN (ls ++ [x]) k = prevN ls k := by
  unfold prevN
  split
  · rfl
  · exact link_cut ls x _ (by omega)
theorem up_sub {ls : List Ln} {ks : List ByteArray} : ∀ {m k : Nat}, upLk linkT ls ks m = true → k ≤ m → upLk linkT ls ks k = true
  | 0, k, h, hk => by
    have e : k = 0 := by omega
    rw [e]; exact h
  | m + 1, k, h, hk => by
    by_cases e : k = m + 1
    · subst e; exact h
    · unfold upLk at h
      exact up_sub (Bool.and_eq_true_iff.1 h).1 (by omega)
/-- What the program makes anew is what stands there, and the link behind. -/
theorem links_new {ls : List Ln} {ks : List ByteArray} {x : Ln} (ra : auditB linkT ls ks = true) (rx : lineB x = true) : (List.range (ls.length + 1)).map (linkN (ls ++ [x])) = ks ++ [linkT (lastAt ks ks.length) x] := by
  obtain ⟨_, hl, hu⟩ := audit_parts ra
  apply List.ext_getElem?
  intro i
  by_cases h1 : i < ks.length
  · rw [List.getElem?_append_left h1, List.getElem?_map, List.getElem?_range (by omega)]
    have e1 := last_prev (i + 1) (up_sub hu (k := i + 1) (by omega))
    show some (linkN (ls ++ [x]) i) = _
    rw [link_cut ls x i (by omega), sAt_get h1]
    exact congrArg some e1.symm
  · by_cases h2 : i = ks.length
    · rw [h2, List.getElem?_append_right (Nat.le_refl _), List.getElem?_map, List.getElem?_range (by omega)]
      have e1 := last_prev ls.length hu
      show some (linkN (ls ++ [x]) ks.length) = _
      rw [link_prev, hl, prev_cut ls x _ (Nat.le_refl _), lAt_snoc _ _ _ (by omega), if_neg (Nat.lt_irrefl _), ← e1]
      simp only [Nat.sub_self, List.getElem?_cons_zero]
      unfold textR
      rw [if_pos rx]
      rfl
    · rw [List.getElem?_eq_none (by simp; omega), List.getElem?_eq_none (by simp; omega)]
set_option maxRecDepth 100000 in
set_option maxHeartbeats 800000 in
theorem add9_spec (va ka vx : Value) (ls : List Ln) (ks : List ByteArray) (x : Ln) (w : World) (hv : LRow w va ls) (hu : SRow w ka ks) (hx : IRow w vx x.cards) (wx : LnW x) (ra : auditB linkT ls ks = true) (rx : lineB x = true) :
    Calls Tryd.prog 41 #[.agg #[va, ka], lnV x vx] w fun e w' => ∃ ul uk, e = .returned (.agg #[ul, uk, .int .i64 (addC ls ks x)]) ∧ OLs w.heap.size w' ul (addL ls ks x) ∧ OT w.heap.size w' uk (addK ls ks x) ∧ Below w.heap.size w w' := by
  have HC : Hid (addC ls ks x = if auditB linkT ls ks = true ∧ lineB x = true then (if ls.length = 12 then 9 else 0) else 1) := rfl
  have HLd : Hid (addL ls ks x = if addC ls ks x = 0 then ls ++ [x] else []) := rfl
  have HKd : Hid (addK ls ks x = if addC ls ks x = 0 then (List.range (ls.length + 1)).map (linkN (ls ++ [x])) else []) := rfl
  obtain ⟨hn12, hkl, hup⟩ := audit_parts ra
  have hcn : ∀ k, (lAt ls k).cards.length ≤ 1048576 := fun k => by
    by_cases hk : k < ls.length
    · have := (line_small (audit_line ra hk)).1; omega
    · rw [lAt_out hk]; decide
  have hxs := line_small rx
  have hls : (lastAt ks ks.length).size ≤ 32 := by rw [hkl, last_prev _ hup]; exact prev_size _ _
  have HLN : Hid ((List.range (ls.length + 1)).map (linkN (ls ++ [x])) = ks ++ [linkT (lastAt ks ks.length) x]) := links_new ra rx
  have HCP : Hid (∀ W, Below w.heap.size w W → Calls Tryd.prog 80 #[.agg #[va, ka]] W fun e w' => ∃ ul uk, e = .returned (.agg #[ul, uk]) ∧ OLs W.heap.size w' ul ls ∧ OT W.heap.size w' uk ks ∧ Below W.heap.size W w') := fun W hW => copy_any va ka ls ks W (hv.below hW) (hu.below hW) hn12 hcn (by omega)
  have HCL : Hid (∀ W, Below w.heap.size w W → Calls Tryd.prog 81 #[lnV x vx] W fun e w' => ∃ vd, e = .returned (lnV x vd) ∧ OIRow W.heap.size w' vd x.cards ∧ Below W.heap.size W w') := fun W hW => copyLine_any x vx W (hx.below hW) (by omega)
  have HLK : Hid (∀ W, Below w.heap.size w W → Calls Tryd.prog 62 #[.string (lastAt ks ks.length), lnV x vx] W fun e w' => e = .returned (.string (linkT (lastAt ks ks.length) x)) ∧ Below W.heap.size W w') := fun W hW => A3.link_spec _ x vx W (hx.below hW) wx.1 wx.2.1 wx.2.2.1.1 wx.2.2.1.2 wx.2.2.2 (by omega) (by rw [ByteArray.size_append]; omega)
  obtain ⟨a1, c1, rfl, hl1, _⟩ := hv
  have HEN : Hid (∀ W, Below w.heap.size w W → Calls Tryd.prog 54 #[.agg #[.slice a1 ls.length c1, ka]] W fun e w' => e = .returned (.string (lastAt ks ks.length)) ∧ Below W.heap.size W w') := fun W hW => last_spec _ ka ks W a1 _ c1 rfl (hu.below hW)
  obtain ⟨a2, c2, rfl, hl2, _⟩ := hu
  obtain ⟨av, cv, rfl, _, _⟩ := hx
  unfold maxLen at hl1
  have KA := carryA (carryA (heap_alloc_new w (.cells #[.slice a1 ls.length c1, .slice a2 ks.length c2] 26)) (.cells #[.int .i64 x.kind, .string x.name, .string x.sum, .slice av x.cards.length cv] 29)) (.cells #[.slice none 0 0, .slice none 0 0, .int .i64 0] 33)
  have KX := heap_alloc_new (w.alloc (.cells #[.slice a1 ls.length c1, .slice a2 ks.length c2] 26)) (.cells #[.int .i64 x.kind, .string x.name, .string x.sum, .slice av x.cards.length cv] 29)
  rw [asz] at KX
  have KX2 := carryA KX (.cells #[.slice none 0 0, .slice none 0 0, .int .i64 0] 33)
  have KR := heap_alloc_new ((w.alloc (.cells #[.slice a1 ls.length c1, .slice a2 ks.length c2] 26)).alloc (.cells #[.int .i64 x.kind, .string x.name, .string x.sum, .slice av x.cards.length cv] 29)) (.cells #[.slice none 0 0, .slice none 0 0, .int .i64 0] 33)
  have hsz : ((w.alloc (.cells #[.slice a1 ls.length c1, .slice a2 ks.length c2] 26)).alloc (.cells #[.int .i64 x.kind, .string x.name, .string x.sum, .slice av x.cards.length cv] 29)).heap.size = w.heap.size + 1 + 1 := by simp
  rw [hsz] at KR
  have BB := ((albel w (.cells #[.slice a1 ls.length c1, .slice a2 ks.length c2] 26)).alloc (by simp) (.cells #[.int .i64 x.kind, .string x.name, .string x.sum, .slice av x.cards.length cv] 29)).alloc (by rw [hsz]; omega) (.cells #[.slice none 0 0, .slice none 0 0, .int .i64 0] 33)
  have hsz3 : (((w.alloc (.cells #[.slice a1 ls.length c1, .slice a2 ks.length c2] 26)).alloc (.cells #[.int .i64 x.kind, .string x.name, .string x.sum, .slice av x.cards.length cv] 29)).alloc (.cells #[.slice none 0 0, .slice none 0 0, .int .i64 0] 33)).heap.size = w.heap.size + 1 + 1 + 1 := by simp
  have HA : Hid _ := KA
  have HX : Hid _ := KX2
  have HR : Hid _ := KR
  have HB : Hid _ := BB
  have HZ : Hid _ := hsz3
  clear KA KX KX2 KR BB hsz hsz3
  unfold lnV at HCL HLK ⊢
  obtain ⟨kind, name, sum, cs⟩ := x
  dsimp only at *
  by_cases h12 : ls.length = 12
  · have HV : Hid (addC ls ks ⟨kind, name, sum, cs⟩ = 9) := by unfold Hid; rw [HC.out, if_pos ⟨ra, rx⟩, if_pos h12]
    have HL0 : Hid (addL ls ks ⟨kind, name, sum, cs⟩ = []) := by unfold Hid; rw [HLd.out, HV.out]; rfl
    have HK0 : Hid (addK ls ks ⟨kind, name, sum, cs⟩ = []) := by unfold Hid; rw [HKd.out, HV.out]; rfl
    rw [HV.out, HL0.out, HK0.out]
    have t1 : (12 : Int) ≤ (ls.length : Int) := by omega
    clear HC HLd HKd HV HL0 HK0 wx ra rx h12 hn12 hkl hup hcn hxs hls HLN HCP HCL HLK HEN
    obtain ⟨s0, s1, sf⟩ := blk2a HA.out
    obtain ⟨r0, r1, r2, rf⟩ := blk3a HR.out
    go_enter Tryd.func41, Tryd.ntmps41
    go_wp2
    refine bodyPost_ret (v := .agg #[.slice none 0 0, .slice none 0 0, .int .i64 9]) (by simp [results, Tryd.results41, go_sem]) rfl ⟨_, _, rfl, OLs.nil _ _, World.ownsRow_nil _ _ _ _, ?_⟩
    first
      | exact HB.out
      | exact ((HB.out.setCell (by show w.heap.size ≤ w.heap.size + 1 + 1; omega) _).setCell (by show w.heap.size ≤ w.heap.size + 1 + 1; omega) _).setCell (by show w.heap.size ≤ w.heap.size + 1 + 1; omega) _
      | exact ((albel w _).alloc (by simp) _).alloc (by simp; omega) _
  · have HV : Hid (addC ls ks ⟨kind, name, sum, cs⟩ = 0) := by unfold Hid; rw [HC.out, if_pos ⟨ra, rx⟩, if_neg h12]
    have HL0 : Hid (addL ls ks ⟨kind, name, sum, cs⟩ = ls ++ [⟨kind, name, sum, cs⟩]) := by unfold Hid; rw [HLd.out, if_pos HV.out]
    have HK0 : Hid (addK ls ks ⟨kind, name, sum, cs⟩ = ks ++ [linkT (lastAt ks ks.length) ⟨kind, name, sum, cs⟩]) := by unfold Hid; rw [HKd.out, if_pos HV.out, HLN.out]
    rw [HV.out, HL0.out, HK0.out]
    have t1 : ¬ (12 : Int) ≤ (ls.length : Int) := by omega
    have hkn : ks.length ≤ 12 := by omega
    clear hkl
    generalize linkT (lastAt ks ks.length) ⟨kind, name, sum, cs⟩ = lk at *
    generalize lastAt ks ks.length = lst at *
    clear HC HLd HKd HV HL0 HK0 wx ra rx h12 hup hcn hxs hls HLN
    obtain ⟨s0, s1, sf⟩ := blk2a HA.out
    go_enter Tryd.func41, Tryd.ntmps41
    go_wp2_with fail
    refine (HCP.out _ HB.out).mono ?_
    rintro e w1 ⟨ul, uk, rfl, hol, hok, hb1⟩
    rw [HZ.out] at hol hok
    obtain ⟨x1, y1, z1, rfl⟩ := agg_form hol
    obtain ⟨x2, y2, z2, rfl⟩ := ot_form hok
    have hal := albel w1 (.cells #[.slice x1 y1 z1, .slice x2 y2 z2] 26)
    have HA1 : Hid _ := carry (carry HA.out hb1) hal
    have HX1 : Hid _ := carry (carry HX.out hb1) hal
    have HR1 : Hid _ := carry (carry HR.out hb1) hal
    have HV1 : Hid _ := heap_alloc_new w1 (.cells #[.slice x1 y1 z1, .slice x2 y2 z2] 26)
    have HB1 : Hid (Below w.heap.size w (w1.alloc (.cells #[.slice x1 y1 z1, .slice x2 y2 z2] 26))) := bel2 (bel2 HB.out hb1) hal
    have HOL : Hid _ := hol.below hal
    have HOK : Hid (OT (w.heap.size + 1 + 1 + 1) (w1.alloc (.cells #[.slice x1 y1 z1, .slice x2 y2 z2] 26)) (.slice x2 y2 z2) ks) := NU.own_below hok hal
    have hgB : w.heap.size + 1 + 1 + 1 ≤ w1.heap.size := by have := hb1.size; rw [HZ.out] at this; exact this
    have hBc0 : w.heap.size + 1 + 1 + 1 ≤ (w1.alloc (.cells #[.slice x1 y1 z1, .slice x2 y2 z2] 26)).heap.size := by simp; omega
    clear hol hok hb1 hal HA HX HR HB HZ HCP s0 s1 sf
    go_upto_region 4 with fail
    generalize w1.alloc (.cells #[.slice x1 y1 z1, .slice x2 y2 z2] 26) = W4 at *
    generalize hgBe : w1.heap.size = gB at *
    clear hgBe
    have hx1 : ∀ (a3 : Option Addr) (c3 : Nat), ∀ u ∈ four (⟨kind, name, sum, cs⟩, .slice a3 cs.length c3), u.oneCell' = true := fun a3 c3 u hu => by
      simp only [four, List.mem_cons, List.not_mem_nil, or_false] at hu
      rcases hu with rfl | rfl | rfl | rfl <;> rfl
    have bl := HX1.out
    have bx := HA1.out
    have br := HR1.out
    have b30 := HV1.out
    have hk := HOK.out
    have hB := HB1.out
    have hBc := hBc0
    obtain ⟨vds, o1, o2, o3⟩ : OLs (w.heap.size + 1 + 1 + 1) W4 (.slice x1 y1 z1) ls := HOL.out
    have hgne : w.heap.size + 1 ≠ gB := by omega
    have KF : Hid (∀ y : World, y.heap[w.heap.size + 1]? = some (.cells #[.int .i64 kind, .string name, .string sum, .slice av cs.length cv] 29 (0, 0)) → (y.cell? ⟨w.heap.size + 1, 0, none⟩ = some (.int .i64 kind) ∧ y.cell? ⟨w.heap.size + 1, 1, none⟩ = some (.string name) ∧ y.cell? ⟨w.heap.size + 1, 2, none⟩ = some (.string sum) ∧ y.cell? ⟨w.heap.size + 1, 3, none⟩ = some (.slice av cs.length cv))) := fun y h => ⟨block_cell h 0, block_cell h 1, block_cell h 2, block_cell h 3⟩
    refine region_cut (S := fun y => (y.cell? ⟨w.heap.size + 1, 0, none⟩ = some (.int .i64 kind) ∧ y.cell? ⟨w.heap.size + 1, 1, none⟩ = some (.string name) ∧ y.cell? ⟨w.heap.size + 1, 2, none⟩ = some (.string sum) ∧ y.cell? ⟨w.heap.size + 1, 3, none⟩ = some (.slice av cs.length cv))) (fun a' y => ∃ q13 q14 q15 q16 q17 q18 q19 gg cap1, a' = { tmps := #[.agg #[.slice a1 ls.length c1, .slice a2 ks.length c2], .agg #[.int .i64 kind, .string name, .string sum, .slice av cs.length cv], .pointer (some ⟨w.heap.size, 0, none⟩), .pointer (some ⟨w.heap.size + 1, 0, none⟩), .pointer (some ⟨w.heap.size + 1 + 1, 0, none⟩), .pointer (some ⟨gB, 0, none⟩), .pointer (some ⟨w.heap.size, 0, none⟩), .slice a1 ls.length c1, .int .i64 ls.length, .bool false, undef, .agg #[.slice a1 ls.length c1, .slice a2 ks.length c2], .agg #[.slice x1 y1 z1, .slice x2 y2 z2], q13, q14, q15, q16, q17, q18, q19, undef, undef, undef, undef, undef, undef, undef, undef, undef, undef, undef], defers := [] } ∧ y.heap[gB]? = some (.cells #[.slice (some ⟨gg, 0, none⟩) (ls.length + 1) cap1, .slice x2 y2 z2] 26 (0, 0)) ∧ OLs (w.heap.size + 1 + 1 + 1) y (.slice (some ⟨gg, 0, none⟩) (ls.length + 1) cap1) (ls ++ [⟨kind, name, sum, cs⟩]) ∧ OT (w.heap.size + 1 + 1 + 1) y (.slice x2 y2 z2) ks ∧ (∀ (g : Nat) (cs : Array Value) (T : TypeId), W4.heap[g]? = some (Obj.cells cs T (0, 0)) → T ≠ 29 ∨ g < w.heap.size + 1 + 1 + 1 → g ≠ gB → y.heap[g]? = W4.heap[g]?) ∧ Below w.heap.size w y) (by kernel_rfl) (KF.out _ bl) ?_ ?_
    · intro hHeld
      have hbw : Below w.heap.size w W4.drew := hB.drew
      have hbW : Below W4.heap.size W4 W4.drew := (Below.refl _ _).drew
      have b3 : W4.drew.heap[gB]? = some (.cells #[.slice x1 y1 z1, .slice x2 y2 z2] 26 (0, 0)) := b30
      obtain ⟨v0, v1, vf⟩ := I4.blk2a b3
      generalize W4.drew = V1 at *
      refine TK.take_at 0 (some 13) (v := ?vr0) rfl rfl (by kernel_rfl) (by kernel_rfl) (by kernel_rfl) (fun _ _ _ h => h) (Or.inl ⟨rfl, ?hr0⟩) hHeld ?rr0
      case hr0 => intro wq hSw; (try dsimp only at hSw); go_simp; all_goals (with_reducible rfl)
      try simp only [Act.put, List.setIfInBounds_toArray, List.set_cons_zero, List.set_cons_succ]
      refine TK.take_at 2 (some 15) (v := ?vr2) rfl rfl (by kernel_rfl) (by kernel_rfl) (by kernel_rfl) (fun _ _ _ h => h) (Or.inl ⟨rfl, ?hr2⟩) hHeld ?rr2
      case hr2 => intro wq hSw; (try dsimp only at hSw); go_simp; all_goals (with_reducible rfl)
      try simp only [Act.put, List.setIfInBounds_toArray, List.set_cons_zero, List.set_cons_succ]
      refine wpAnyH_ready (rs := [1, 3]) (by kernel_rfl) (by simp) ?_
      refine AllReadyH.cons rfl (fun K hK => ?_) (AllReadyH.cons rfl (fun K hK => ?_) AllReadyH.nil)
      · go_simp
        skip
        try (go_wp2_with fail)
        refine hK.out _ _ ?_ (fun hHeld => ?_)
        · exact (by first | exact KF.out _ (carry bl hbW) | exact KF.out _ bln | exact KF.out _ ((heap_setCell_other _ _ _ _ hgne).trans bln))
        clear hK K
        try simp only [Act.put, List.setIfInBounds_toArray, List.set_cons_zero, List.set_cons_succ]
        refine wpAnyH_ready (rs := [3]) (by kernel_rfl) (by simp) ?_
        refine AllReadyH.cons rfl (fun K hK => ?_) AllReadyH.nil
        go_simp
        (go_at_call 81; refine (HCL.out _ hbw).mono ?_; rintro e V2 ⟨vd, rfl, ho3, hq⟩; have hbw := bel2 hbw hq; have b3 := (hq.block _ (Array.getElem?_eq_some_iff.1 b3).1).trans b3; have ho3 : OIRow W4.heap.size V2 vd cs := NU.own_mono ho3 hbW.size; have hbW := bel2 hbW hq; clear hq; obtain ⟨a3, c3, rfl⟩ := oi_form ho3; obtain ⟨v0, v1, vf⟩ := I4.blk2a b3)
        try (go_wp2_with fail)
        refine hK.out _ _ ?_ (fun hHeld => ?_)
        · exact (by first | exact KF.out _ (carry bl hbW) | exact KF.out _ bln | exact KF.out _ ((heap_setCell_other _ _ _ _ hgne).trans bln))
        clear hK K
        try simp only [Act.put, List.setIfInBounds_toArray, List.set_cons_zero, List.set_cons_succ]
        refine wpAnyH_ready (rs := [4]) (by kernel_rfl) (by simp) ?_
        refine AllReadyH.cons rfl (fun K hK => ?_) AllReadyH.nil
        go_simp
        (have b3 := carryA b3 (.cells #[.int .i64 kind, .string name, .string sum, .slice a3 cs.length c3] 29); have hnews := block4 V2 (⟨kind, name, sum, cs⟩, .slice a3 cs.length c3) 29; have hb4 := albel V2 (.cells #[.int .i64 kind, .string name, .string sum, .slice a3 cs.length c3] 29); have hbw := bel2 hbw hb4; have hbW := bel2 hbW hb4; have ho3 := A6.OIRow.below ho3 hb4; clear hb4; dsimp only at hnews; generalize V2.alloc (.cells #[.int .i64 kind, .string name, .string sum, .slice a3 cs.length c3] 29) = V3 at *; generalize V2.heap.size = g3 at *; clear v0 v1 vf; obtain ⟨v0, v1, vf⟩ := I4.blk2a b3)
        try (go_wp2_with fail)
        refine hK.out _ _ ?_ (fun hHeld => ?_)
        · exact (by first | exact KF.out _ (carry bl hbW) | exact KF.out _ bln | exact KF.out _ ((heap_setCell_other _ _ _ _ hgne).trans bln))
        clear hK K
        try simp only [Act.put, List.setIfInBounds_toArray, List.set_cons_zero, List.set_cons_succ]
        refine wpAnyH_ready (rs := [5]) (by kernel_rfl) (by simp) ?_
        refine AllReadyH.cons rfl (fun K hK => ?_) AllReadyH.nil
        (have o4 := NU.own_below o1 hbW; have hbs := Nat.le_trans hBc hbW.size; refine NU.step_app (by rfl) _ _ 23 29 (by rfl) (w.heap.size + 1 + 1 + 1) (.agg #[.int .i64 0, .string ⟨#[]⟩, .string ⟨#[]⟩, .slice none 0 0]) 4 64 Tryd.underlying23 IE.info_line (by rfl) (by decide) (by decide) (.slice x1 y1 z1) _ _ (by rfl) o4 (by omega) ⟨g3, 0, none⟩ 1 (four (⟨kind, name, sum, cs⟩, .slice a3 cs.length c3)) (by rfl) (by rfl) hnews (hx1 _ _) hbs ?_; intro gg cap1 xn hown1 hgrow hat hlt1; have b3n := blk_grown b3 o4 hgrow (by decide); clear v0 v1 vf; obtain ⟨v0, v1, vf⟩ := I4.blk2a b3n; have bln := (hgrow.block (w.heap.size + 1) (by omega) (fun q => by have := (o4.lt _ q.symm).1; omega)).trans (carry bl hbW))
        refine hK.out _ _ ?_ (fun hHeld => ?_)
        · exact (by first | exact KF.out _ (carry bl hbW) | exact KF.out _ bln | exact KF.out _ ((heap_setCell_other _ _ _ _ hgne).trans bln))
        clear hK K
        (try simp only [Act.put]); (try simp only [List.setIfInBounds_toArray]); (try simp only [List.set_cons_succ]); (try simp only [List.set_cons_zero])
        refine TK.take_at 6 (some 19) (v := ?vr16) rfl rfl (by kernel_rfl) (by kernel_rfl) (by kernel_rfl) (fun _ _ _ h => h) (Or.inl ⟨rfl, ?hr16⟩) hHeld ?rr16
        case hr16 => intro wq hSw; (try dsimp only at hSw); go_simp; all_goals (with_reducible rfl)
        (try simp only [Act.put]); (try simp only [List.setIfInBounds_toArray]); (try simp only [List.set_cons_succ]); (try simp only [List.set_cons_zero])
        refine wpAnyH_ready (rs := [7]) (by kernel_rfl) (by simp) ?_
        refine AllReadyH.cons rfl (fun K hK => ?_) AllReadyH.nil
        go_simp
        skip
        try (go_wp2_with fail)
        refine hK.out _ _ ?_ (fun hHeld => ?_)
        · exact (by first | exact KF.out _ (carry bl hbW) | exact KF.out _ bln | exact KF.out _ ((heap_setCell_other _ _ _ _ hgne).trans bln))
        clear hK K
        (try simp only [Act.put]); (try simp only [List.setIfInBounds_toArray]); (try simp only [List.set_cons_succ]); (try simp only [List.set_cons_zero])
        refine wpAnyH_done (by kernel_rfl) ?_ _
        refine ⟨_, _, _, _, _, _, _, gg, cap1, rfl, ?_⟩
        have hnewd : ∀ i, i < ls.length → ∀ g, (vds i).ownBlock = some g → (Value.slice a3 cs.length c3).ownBlock ≠ some g := fun i hi g hg e => by
          have e1 := ((o2 i hi).lt g hg).2
          have e2 := (ho3.lt g e).1
          omega
        have hx4 : OIRow (w.heap.size + 1 + 1 + 1) xn (.slice a3 cs.length c3) cs := NU.own_mono (row_grown ho3 o4 hgrow (by decide)) hBc
        have hbase := NU.grown_bel (hbw.mono (Nat.le_refl _)) (NU.own_mono o4 (by omega)) hgrow hbw.size
        have hgk : ∀ (g : Nat) (cs : Array Value) (T : TypeId), W4.heap[g]? = some (Obj.cells cs T (0, 0)) → T ≠ 29 ∨ g < (w.heap.size + 1 + 1 + 1) → g ≠ gB → (xn.setCell ⟨gB, 0, none⟩ (.slice (some ⟨gg, 0, none⟩) (ls.length + 1) cap1)).heap[g]? = W4.heap[g]? := fun g cs T hg hT hne => by
          rw [heap_setCell_other _ _ _ _ hne]
          rcases hT with hT | hT
          · rw [blk_grown (carry hg hbW) o4 hgrow hT, hg]
          · rw [hgrow.block g (by omega) (fun q => by have := (o4.lt _ q.symm).1; omega), carry hg hbW, hg]
        exact ⟨AB.heap_set (i := 0) b3n (by show 0 < 2; omega), OLs.snoc (row_set hown1 b3n (by decide)) (fun k hk => row_set (row_grown (A6.OIRow.below (o2 k hk) hbW) o4 hgrow (by decide)) b3n (by decide)) (row_set hx4 b3n (by decide)) o3 hnewd, row_set (row_grown (NU.own_below hk hbW) o4 hgrow (by decide)) b3n (by decide), hgk, hbase.setCell (p := ⟨gB, 0, none⟩) (by show w.heap.size ≤ gB; omega) _⟩
      · go_simp
        (go_at_call 81; refine (HCL.out _ hbw).mono ?_; rintro e V2 ⟨vd, rfl, ho3, hq⟩; have hbw := bel2 hbw hq; have b3 := (hq.block _ (Array.getElem?_eq_some_iff.1 b3).1).trans b3; have ho3 : OIRow W4.heap.size V2 vd cs := NU.own_mono ho3 hbW.size; have hbW := bel2 hbW hq; clear hq; obtain ⟨a3, c3, rfl⟩ := oi_form ho3; obtain ⟨v0, v1, vf⟩ := I4.blk2a b3)
        try (go_wp2_with fail)
        refine hK.out _ _ ?_ (fun hHeld => ?_)
        · exact (by first | exact KF.out _ (carry bl hbW) | exact KF.out _ bln | exact KF.out _ ((heap_setCell_other _ _ _ _ hgne).trans bln))
        clear hK K
        try simp only [Act.put, List.setIfInBounds_toArray, List.set_cons_zero, List.set_cons_succ]
        refine wpAnyH_ready (rs := [1, 4]) (by kernel_rfl) (by simp) ?_
        refine AllReadyH.cons rfl (fun K hK => ?_) (AllReadyH.cons rfl (fun K hK => ?_) AllReadyH.nil)
        · go_simp
          skip
          try (go_wp2_with fail)
          refine hK.out _ _ ?_ (fun hHeld => ?_)
          · exact (by first | exact KF.out _ (carry bl hbW) | exact KF.out _ bln | exact KF.out _ ((heap_setCell_other _ _ _ _ hgne).trans bln))
          clear hK K
          try simp only [Act.put, List.setIfInBounds_toArray, List.set_cons_zero, List.set_cons_succ]
          refine wpAnyH_ready (rs := [4]) (by kernel_rfl) (by simp) ?_
          refine AllReadyH.cons rfl (fun K hK => ?_) AllReadyH.nil
          go_simp
          (have b3 := carryA b3 (.cells #[.int .i64 kind, .string name, .string sum, .slice a3 cs.length c3] 29); have hnews := block4 V2 (⟨kind, name, sum, cs⟩, .slice a3 cs.length c3) 29; have hb4 := albel V2 (.cells #[.int .i64 kind, .string name, .string sum, .slice a3 cs.length c3] 29); have hbw := bel2 hbw hb4; have hbW := bel2 hbW hb4; have ho3 := A6.OIRow.below ho3 hb4; clear hb4; dsimp only at hnews; generalize V2.alloc (.cells #[.int .i64 kind, .string name, .string sum, .slice a3 cs.length c3] 29) = V3 at *; generalize V2.heap.size = g3 at *; clear v0 v1 vf; obtain ⟨v0, v1, vf⟩ := I4.blk2a b3)
          try (go_wp2_with fail)
          refine hK.out _ _ ?_ (fun hHeld => ?_)
          · exact (by first | exact KF.out _ (carry bl hbW) | exact KF.out _ bln | exact KF.out _ ((heap_setCell_other _ _ _ _ hgne).trans bln))
          clear hK K
          try simp only [Act.put, List.setIfInBounds_toArray, List.set_cons_zero, List.set_cons_succ]
          refine wpAnyH_ready (rs := [5]) (by kernel_rfl) (by simp) ?_
          refine AllReadyH.cons rfl (fun K hK => ?_) AllReadyH.nil
          (have o4 := NU.own_below o1 hbW; have hbs := Nat.le_trans hBc hbW.size; refine NU.step_app (by rfl) _ _ 23 29 (by rfl) (w.heap.size + 1 + 1 + 1) (.agg #[.int .i64 0, .string ⟨#[]⟩, .string ⟨#[]⟩, .slice none 0 0]) 4 64 Tryd.underlying23 IE.info_line (by rfl) (by decide) (by decide) (.slice x1 y1 z1) _ _ (by rfl) o4 (by omega) ⟨g3, 0, none⟩ 1 (four (⟨kind, name, sum, cs⟩, .slice a3 cs.length c3)) (by rfl) (by rfl) hnews (hx1 _ _) hbs ?_; intro gg cap1 xn hown1 hgrow hat hlt1; have b3n := blk_grown b3 o4 hgrow (by decide); clear v0 v1 vf; obtain ⟨v0, v1, vf⟩ := I4.blk2a b3n; have bln := (hgrow.block (w.heap.size + 1) (by omega) (fun q => by have := (o4.lt _ q.symm).1; omega)).trans (carry bl hbW))
          refine hK.out _ _ ?_ (fun hHeld => ?_)
          · exact (by first | exact KF.out _ (carry bl hbW) | exact KF.out _ bln | exact KF.out _ ((heap_setCell_other _ _ _ _ hgne).trans bln))
          clear hK K
          (try simp only [Act.put]); (try simp only [List.setIfInBounds_toArray]); (try simp only [List.set_cons_succ]); (try simp only [List.set_cons_zero])
          refine TK.take_at 6 (some 19) (v := ?vr26) rfl rfl (by kernel_rfl) (by kernel_rfl) (by kernel_rfl) (fun _ _ _ h => h) (Or.inl ⟨rfl, ?hr26⟩) hHeld ?rr26
          case hr26 => intro wq hSw; (try dsimp only at hSw); go_simp; all_goals (with_reducible rfl)
          (try simp only [Act.put]); (try simp only [List.setIfInBounds_toArray]); (try simp only [List.set_cons_succ]); (try simp only [List.set_cons_zero])
          refine wpAnyH_ready (rs := [7]) (by kernel_rfl) (by simp) ?_
          refine AllReadyH.cons rfl (fun K hK => ?_) AllReadyH.nil
          go_simp
          skip
          try (go_wp2_with fail)
          refine hK.out _ _ ?_ (fun hHeld => ?_)
          · exact (by first | exact KF.out _ (carry bl hbW) | exact KF.out _ bln | exact KF.out _ ((heap_setCell_other _ _ _ _ hgne).trans bln))
          clear hK K
          (try simp only [Act.put]); (try simp only [List.setIfInBounds_toArray]); (try simp only [List.set_cons_succ]); (try simp only [List.set_cons_zero])
          refine wpAnyH_done (by kernel_rfl) ?_ _
          refine ⟨_, _, _, _, _, _, _, gg, cap1, rfl, ?_⟩
          have hnewd : ∀ i, i < ls.length → ∀ g, (vds i).ownBlock = some g → (Value.slice a3 cs.length c3).ownBlock ≠ some g := fun i hi g hg e => by
            have e1 := ((o2 i hi).lt g hg).2
            have e2 := (ho3.lt g e).1
            omega
          have hx4 : OIRow (w.heap.size + 1 + 1 + 1) xn (.slice a3 cs.length c3) cs := NU.own_mono (row_grown ho3 o4 hgrow (by decide)) hBc
          have hbase := NU.grown_bel (hbw.mono (Nat.le_refl _)) (NU.own_mono o4 (by omega)) hgrow hbw.size
          have hgk : ∀ (g : Nat) (cs : Array Value) (T : TypeId), W4.heap[g]? = some (Obj.cells cs T (0, 0)) → T ≠ 29 ∨ g < (w.heap.size + 1 + 1 + 1) → g ≠ gB → (xn.setCell ⟨gB, 0, none⟩ (.slice (some ⟨gg, 0, none⟩) (ls.length + 1) cap1)).heap[g]? = W4.heap[g]? := fun g cs T hg hT hne => by
            rw [heap_setCell_other _ _ _ _ hne]
            rcases hT with hT | hT
            · rw [blk_grown (carry hg hbW) o4 hgrow hT, hg]
            · rw [hgrow.block g (by omega) (fun q => by have := (o4.lt _ q.symm).1; omega), carry hg hbW, hg]
          exact ⟨AB.heap_set (i := 0) b3n (by show 0 < 2; omega), OLs.snoc (row_set hown1 b3n (by decide)) (fun k hk => row_set (row_grown (A6.OIRow.below (o2 k hk) hbW) o4 hgrow (by decide)) b3n (by decide)) (row_set hx4 b3n (by decide)) o3 hnewd, row_set (row_grown (NU.own_below hk hbW) o4 hgrow (by decide)) b3n (by decide), hgk, hbase.setCell (p := ⟨gB, 0, none⟩) (by show w.heap.size ≤ gB; omega) _⟩
        · go_simp
          (have b3 := carryA b3 (.cells #[.int .i64 kind, .string name, .string sum, .slice a3 cs.length c3] 29); have hnews := block4 V2 (⟨kind, name, sum, cs⟩, .slice a3 cs.length c3) 29; have hb4 := albel V2 (.cells #[.int .i64 kind, .string name, .string sum, .slice a3 cs.length c3] 29); have hbw := bel2 hbw hb4; have hbW := bel2 hbW hb4; have ho3 := A6.OIRow.below ho3 hb4; clear hb4; dsimp only at hnews; generalize V2.alloc (.cells #[.int .i64 kind, .string name, .string sum, .slice a3 cs.length c3] 29) = V3 at *; generalize V2.heap.size = g3 at *; clear v0 v1 vf; obtain ⟨v0, v1, vf⟩ := I4.blk2a b3)
          try (go_wp2_with fail)
          refine hK.out _ _ ?_ (fun hHeld => ?_)
          · exact (by first | exact KF.out _ (carry bl hbW) | exact KF.out _ bln | exact KF.out _ ((heap_setCell_other _ _ _ _ hgne).trans bln))
          clear hK K
          try simp only [Act.put, List.setIfInBounds_toArray, List.set_cons_zero, List.set_cons_succ]
          refine wpAnyH_ready (rs := [1]) (by kernel_rfl) (by simp) ?_
          refine AllReadyH.cons rfl (fun K hK => ?_) AllReadyH.nil
          go_simp
          skip
          try (go_wp2_with fail)
          refine hK.out _ _ ?_ (fun hHeld => ?_)
          · exact (by first | exact KF.out _ (carry bl hbW) | exact KF.out _ bln | exact KF.out _ ((heap_setCell_other _ _ _ _ hgne).trans bln))
          clear hK K
          try simp only [Act.put, List.setIfInBounds_toArray, List.set_cons_zero, List.set_cons_succ]
          refine wpAnyH_ready (rs := [5]) (by kernel_rfl) (by simp) ?_
          refine AllReadyH.cons rfl (fun K hK => ?_) AllReadyH.nil
          (have o4 := NU.own_below o1 hbW; have hbs := Nat.le_trans hBc hbW.size; refine NU.step_app (by rfl) _ _ 23 29 (by rfl) (w.heap.size + 1 + 1 + 1) (.agg #[.int .i64 0, .string ⟨#[]⟩, .string ⟨#[]⟩, .slice none 0 0]) 4 64 Tryd.underlying23 IE.info_line (by rfl) (by decide) (by decide) (.slice x1 y1 z1) _ _ (by rfl) o4 (by omega) ⟨g3, 0, none⟩ 1 (four (⟨kind, name, sum, cs⟩, .slice a3 cs.length c3)) (by rfl) (by rfl) hnews (hx1 _ _) hbs ?_; intro gg cap1 xn hown1 hgrow hat hlt1; have b3n := blk_grown b3 o4 hgrow (by decide); clear v0 v1 vf; obtain ⟨v0, v1, vf⟩ := I4.blk2a b3n; have bln := (hgrow.block (w.heap.size + 1) (by omega) (fun q => by have := (o4.lt _ q.symm).1; omega)).trans (carry bl hbW))
          refine hK.out _ _ ?_ (fun hHeld => ?_)
          · exact (by first | exact KF.out _ (carry bl hbW) | exact KF.out _ bln | exact KF.out _ ((heap_setCell_other _ _ _ _ hgne).trans bln))
          clear hK K
          (try simp only [Act.put]); (try simp only [List.setIfInBounds_toArray]); (try simp only [List.set_cons_succ]); (try simp only [List.set_cons_zero])
          refine TK.take_at 6 (some 19) (v := ?vr36) rfl rfl (by kernel_rfl) (by kernel_rfl) (by kernel_rfl) (fun _ _ _ h => h) (Or.inl ⟨rfl, ?hr36⟩) hHeld ?rr36
          case hr36 => intro wq hSw; (try dsimp only at hSw); go_simp; all_goals (with_reducible rfl)
          (try simp only [Act.put]); (try simp only [List.setIfInBounds_toArray]); (try simp only [List.set_cons_succ]); (try simp only [List.set_cons_zero])
          refine wpAnyH_ready (rs := [7]) (by kernel_rfl) (by simp) ?_
          refine AllReadyH.cons rfl (fun K hK => ?_) AllReadyH.nil
          go_simp
          skip
          try (go_wp2_with fail)
          refine hK.out _ _ ?_ (fun hHeld => ?_)
          · exact (by first | exact KF.out _ (carry bl hbW) | exact KF.out _ bln | exact KF.out _ ((heap_setCell_other _ _ _ _ hgne).trans bln))
          clear hK K
          (try simp only [Act.put]); (try simp only [List.setIfInBounds_toArray]); (try simp only [List.set_cons_succ]); (try simp only [List.set_cons_zero])
          refine wpAnyH_done (by kernel_rfl) ?_ _
          refine ⟨_, _, _, _, _, _, _, gg, cap1, rfl, ?_⟩
          have hnewd : ∀ i, i < ls.length → ∀ g, (vds i).ownBlock = some g → (Value.slice a3 cs.length c3).ownBlock ≠ some g := fun i hi g hg e => by
            have e1 := ((o2 i hi).lt g hg).2
            have e2 := (ho3.lt g e).1
            omega
          have hx4 : OIRow (w.heap.size + 1 + 1 + 1) xn (.slice a3 cs.length c3) cs := NU.own_mono (row_grown ho3 o4 hgrow (by decide)) hBc
          have hbase := NU.grown_bel (hbw.mono (Nat.le_refl _)) (NU.own_mono o4 (by omega)) hgrow hbw.size
          have hgk : ∀ (g : Nat) (cs : Array Value) (T : TypeId), W4.heap[g]? = some (Obj.cells cs T (0, 0)) → T ≠ 29 ∨ g < (w.heap.size + 1 + 1 + 1) → g ≠ gB → (xn.setCell ⟨gB, 0, none⟩ (.slice (some ⟨gg, 0, none⟩) (ls.length + 1) cap1)).heap[g]? = W4.heap[g]? := fun g cs T hg hT hne => by
            rw [heap_setCell_other _ _ _ _ hne]
            rcases hT with hT | hT
            · rw [blk_grown (carry hg hbW) o4 hgrow hT, hg]
            · rw [hgrow.block g (by omega) (fun q => by have := (o4.lt _ q.symm).1; omega), carry hg hbW, hg]
          exact ⟨AB.heap_set (i := 0) b3n (by show 0 < 2; omega), OLs.snoc (row_set hown1 b3n (by decide)) (fun k hk => row_set (row_grown (A6.OIRow.below (o2 k hk) hbW) o4 hgrow (by decide)) b3n (by decide)) (row_set hx4 b3n (by decide)) o3 hnewd, row_set (row_grown (NU.own_below hk hbW) o4 hgrow (by decide)) b3n (by decide), hgk, hbase.setCell (p := ⟨gB, 0, none⟩) (by show w.heap.size ≤ gB; omega) _⟩
    · rintro a' y ⟨q13, q14, q15, q16, q17, q18, q19, gg, cap1, rfl, hb3, hol, hok, hgk, hby⟩
      have HX2 : Hid _ := (hgk _ _ _ bl (.inr (by omega)) hgne).trans bl
      have HA2 : Hid _ := (hgk _ _ _ bx (.inl (by decide)) (by omega)).trans bx
      have HR2 : Hid _ := (hgk _ _ _ br (.inl (by decide)) (by omega)).trans br
      have HV2 : Hid _ := hb3
      have HOL2 : Hid _ := hol
      have HOK2 : Hid _ := hok
      have HB2 : Hid _ := hby
      have hBy : w.heap.size + 1 + 1 + 1 ≤ y.heap.size := by have := (Array.getElem?_eq_some_iff.1 hb3).1; omega
      clear hb3 hol hok hgk hby bl bx br b30 hk hB hBc o1 o2 o3 HX1 HA1 HR1 HV1 HOK HB1 HOL hBc0 KF HCL hx1
      go_upto_region 5 with fail
      have bl := HX2.out
      have bx := HA2.out
      have br := HR2.out
      have b30 := HV2.out
      have hk : OT (w.heap.size + 1 + 1 + 1) y (.slice x2 y2 z2) ks := HOK2.out
      have ho : OLs (w.heap.size + 1 + 1 + 1) y (.slice (some ⟨gg, 0, none⟩) (ls.length + 1) cap1) (ls ++ [⟨kind, name, sum, cs⟩]) := HOL2.out
      have hB : Below w.heap.size w y := HB2.out
      have hBc := hBy
      have hgne0 : w.heap.size ≠ gB := by omega
      have KG : Hid (∀ y : World, y.heap[w.heap.size]? = some (.cells #[.slice a1 ls.length c1, .slice a2 ks.length c2] 26 (0, 0)) → y.heap[w.heap.size + 1]? = some (.cells #[.int .i64 kind, .string name, .string sum, .slice av cs.length cv] 29 (0, 0)) → ((y.cell? ⟨w.heap.size, 0, none⟩ = some (.slice a1 ls.length c1) ∧ y.cell? ⟨w.heap.size, 1, none⟩ = some (.slice a2 ks.length c2)) ∧ (y.cell? ⟨w.heap.size + 1, 0, none⟩ = some (.int .i64 kind) ∧ y.cell? ⟨w.heap.size + 1, 1, none⟩ = some (.string name) ∧ y.cell? ⟨w.heap.size + 1, 2, none⟩ = some (.string sum) ∧ y.cell? ⟨w.heap.size + 1, 3, none⟩ = some (.slice av cs.length cv)))) := fun y h1 h => ⟨⟨block_cell h1 0, block_cell h1 1⟩, block_cell h 0, block_cell h 1, block_cell h 2, block_cell h 3⟩
      refine region_cut (S := fun y => ((y.cell? ⟨w.heap.size, 0, none⟩ = some (.slice a1 ls.length c1) ∧ y.cell? ⟨w.heap.size, 1, none⟩ = some (.slice a2 ks.length c2)) ∧ (y.cell? ⟨w.heap.size + 1, 0, none⟩ = some (.int .i64 kind) ∧ y.cell? ⟨w.heap.size + 1, 1, none⟩ = some (.string name) ∧ y.cell? ⟨w.heap.size + 1, 2, none⟩ = some (.string sum) ∧ y.cell? ⟨w.heap.size + 1, 3, none⟩ = some (.slice av cs.length cv)))) (fun a' z => ∃ q20 q21 q22 q23 q24 q25 q26 q27 q28 g5 cap5, a' = { tmps := #[.agg #[.slice a1 ls.length c1, .slice a2 ks.length c2], .agg #[.int .i64 kind, .string name, .string sum, .slice av cs.length cv], .pointer (some ⟨w.heap.size, 0, none⟩), .pointer (some ⟨w.heap.size + 1, 0, none⟩), .pointer (some ⟨w.heap.size + 1 + 1, 0, none⟩), .pointer (some ⟨gB, 0, none⟩), .pointer (some ⟨w.heap.size, 0, none⟩), .slice a1 ls.length c1, .int .i64 ls.length, .bool false, undef, .agg #[.slice a1 ls.length c1, .slice a2 ks.length c2], .agg #[.slice x1 y1 z1, .slice x2 y2 z2], q13, q14, q15, q16, q17, q18, q19, q20, q21, q22, q23, q24, q25, q26, q27, q28, undef, undef], defers := [] } ∧ z.heap[gB]? = some (.cells #[.slice (some ⟨gg, 0, none⟩) (ls.length + 1) cap1, .slice (some ⟨g5, 0, none⟩) (ks.length + 1) cap5] 26 (0, 0)) ∧ OLs (w.heap.size + 1 + 1 + 1) z (.slice (some ⟨gg, 0, none⟩) (ls.length + 1) cap1) (ls ++ [⟨kind, name, sum, cs⟩]) ∧ OT (w.heap.size + 1 + 1 + 1) z (.slice (some ⟨g5, 0, none⟩) (ks.length + 1) cap5) (ks ++ [lk]) ∧ z.heap[w.heap.size + 1 + 1]? = some (.cells #[.slice none 0 0, .slice none 0 0, .int .i64 0] 33 (0, 0)) ∧ Below w.heap.size w z) (by kernel_rfl) (KG.out _ bx bl) ?_ ?_
      · intro hHeld
        have hbw : Below w.heap.size w y.drew := hB.drew
        have hbW : Below y.heap.size y y.drew := (Below.refl _ _).drew
        have b3 : y.drew.heap[gB]? = some (.cells #[.slice (some ⟨gg, 0, none⟩) (ls.length + 1) cap1, .slice x2 y2 z2] 26 (0, 0)) := b30
        obtain ⟨v0, v1, vf⟩ := I4.blk2a b3
        generalize y.drew = V1 at *
        refine TK.take_at 0 (some 20) (v := ?vs0) rfl rfl (by kernel_rfl) (by kernel_rfl) (by kernel_rfl) (fun _ _ _ h => h) (Or.inl ⟨rfl, ?hs0⟩) hHeld ?rs0
        case hs0 => intro wq hSw; (try dsimp only at hSw); go_simp; all_goals (with_reducible rfl)
        try simp only [Act.put, List.setIfInBounds_toArray, List.set_cons_zero, List.set_cons_succ]
        refine TK.take_at 2 (some 22) (v := ?vs2) rfl rfl (by kernel_rfl) (by kernel_rfl) (by kernel_rfl) (fun _ _ _ h => h) (Or.inl ⟨rfl, ?hs2⟩) hHeld ?rs2
        case hs2 => intro wq hSw; (try dsimp only at hSw); go_simp; all_goals (with_reducible rfl)
        try simp only [Act.put, List.setIfInBounds_toArray, List.set_cons_zero, List.set_cons_succ]
        refine TK.take_at 4 (some 24) (v := ?vs4) rfl rfl (by kernel_rfl) (by kernel_rfl) (by kernel_rfl) (fun _ _ _ h => h) (Or.inl ⟨rfl, ?hs4⟩) hHeld ?rs4
        case hs4 => intro wq hSw; (try dsimp only at hSw); go_simp; all_goals (with_reducible rfl)
        try simp only [Act.put, List.setIfInBounds_toArray, List.set_cons_zero, List.set_cons_succ]
        refine wpAnyH_ready (rs := [1, 3]) (by kernel_rfl) (by simp) ?_
        refine AllReadyH.cons rfl (fun K hK => ?_) (AllReadyH.cons rfl (fun K hK => ?_) AllReadyH.nil)
        · go_simp
          skip
          try (go_wp2_with fail)
          refine hK.out _ _ ?_ (fun hHeld => ?_)
          · exact (by first | exact KG.out _ (carry bx hbW) (carry bl hbW) | exact KG.out _ bxn bln | exact KG.out _ ((heap_setCell_other _ _ _ _ hgne0).trans bxn) ((heap_setCell_other _ _ _ _ hgne).trans bln))
          clear hK K
          try simp only [Act.put, List.setIfInBounds_toArray, List.set_cons_zero, List.set_cons_succ]
          refine wpAnyH_ready (rs := [3]) (by kernel_rfl) (by simp) ?_
          refine AllReadyH.cons rfl (fun K hK => ?_) AllReadyH.nil
          go_simp
          (go_at_call 54; refine (HEN.out _ hbw).mono ?_; rintro e V2 ⟨rfl, hq⟩; have hbw := bel2 hbw hq; have b3 := (hq.block _ (Array.getElem?_eq_some_iff.1 b3).1).trans b3; have hbW := bel2 hbW hq; clear hq v0 v1 vf; obtain ⟨v0, v1, vf⟩ := I4.blk2a b3)
          try (go_wp2_with fail)
          refine hK.out _ _ ?_ (fun hHeld => ?_)
          · exact (by first | exact KG.out _ (carry bx hbW) (carry bl hbW) | exact KG.out _ bxn bln | exact KG.out _ ((heap_setCell_other _ _ _ _ hgne0).trans bxn) ((heap_setCell_other _ _ _ _ hgne).trans bln))
          clear hK K
          try simp only [Act.put, List.setIfInBounds_toArray, List.set_cons_zero, List.set_cons_succ]
          refine wpAnyH_ready (rs := [5]) (by kernel_rfl) (by simp) ?_
          refine AllReadyH.cons rfl (fun K hK => ?_) AllReadyH.nil
          go_simp
          (go_at_call 62; refine (HLK.out _ hbw).mono ?_; rintro e V3 ⟨rfl, hq⟩; have hbw := bel2 hbw hq; have b3 := (hq.block _ (Array.getElem?_eq_some_iff.1 b3).1).trans b3; have hbW := bel2 hbW hq; clear hq v0 v1 vf; obtain ⟨v0, v1, vf⟩ := I4.blk2a b3)
          try (go_wp2_with fail)
          refine hK.out _ _ ?_ (fun hHeld => ?_)
          · exact (by first | exact KG.out _ (carry bx hbW) (carry bl hbW) | exact KG.out _ bxn bln | exact KG.out _ ((heap_setCell_other _ _ _ _ hgne0).trans bxn) ((heap_setCell_other _ _ _ _ hgne).trans bln))
          clear hK K
          try simp only [Act.put, List.setIfInBounds_toArray, List.set_cons_zero, List.set_cons_succ]
          refine wpAnyH_ready (rs := [6]) (by kernel_rfl) (by simp) ?_
          refine AllReadyH.cons rfl (fun K hK => ?_) AllReadyH.nil
          go_simp
          (have b3 := carryA b3 (.cells #[.string lk] 9); have hnews := I1.one_str V3 lk 9; have hb4 := albel V3 (.cells #[.string lk] 9); have hbw := bel2 hbw hb4; have hbW := bel2 hbW hb4; clear hb4; generalize V3.alloc (.cells #[.string lk] 9) = V4 at *; generalize V3.heap.size = g3 at *; clear v0 v1 vf; obtain ⟨v0, v1, vf⟩ := I4.blk2a b3)
          try (go_wp2_with fail)
          refine hK.out _ _ ?_ (fun hHeld => ?_)
          · exact (by first | exact KG.out _ (carry bx hbW) (carry bl hbW) | exact KG.out _ bxn bln | exact KG.out _ ((heap_setCell_other _ _ _ _ hgne0).trans bxn) ((heap_setCell_other _ _ _ _ hgne).trans bln))
          clear hK K
          try simp only [Act.put, List.setIfInBounds_toArray, List.set_cons_zero, List.set_cons_succ]
          refine wpAnyH_ready (rs := [7]) (by kernel_rfl) (by simp) ?_
          refine AllReadyH.cons rfl (fun K hK => ?_) AllReadyH.nil
          (have o4 := NU.own_below hk hbW; have hbs := Nat.le_trans hBc hbW.size; refine NU.step_app (by rfl) _ _ 24 9 (by rfl) (w.heap.size + 1 + 1 + 1) (.string ⟨#[]⟩) 1 16 Tryd.underlying24 I1.info_str (by rfl) (by decide) (by decide) (.slice x2 y2 z2) _ _ (by rfl) o4 (by omega) ⟨g3, 0, none⟩ 1 [.string lk] (by rfl) (by rfl) hnews (by simp [Value.oneCell']) hbs ?_; intro g5 cap5 xn hown1 hgrow hat hlt1; have b3n := blk_grown1 b3 o4 hgrow (by decide); clear v0 v1 vf; obtain ⟨v0, v1, vf⟩ := I4.blk2a b3n; have bln := blk_grown1 (carry bl hbW) o4 hgrow (by decide); have bxn := blk_grown1 (carry bx hbW) o4 hgrow (by decide))
          refine hK.out _ _ ?_ (fun hHeld => ?_)
          · exact (by first | exact KG.out _ (carry bx hbW) (carry bl hbW) | exact KG.out _ bxn bln | exact KG.out _ ((heap_setCell_other _ _ _ _ hgne0).trans bxn) ((heap_setCell_other _ _ _ _ hgne).trans bln))
          clear hK K
          (try simp only [Act.put]); (try simp only [List.setIfInBounds_toArray]); (try simp only [List.set_cons_succ]); (try simp only [List.set_cons_zero])
          refine TK.take_at 8 (some 28) (v := ?vs18) rfl rfl (by kernel_rfl) (by kernel_rfl) (by kernel_rfl) (fun _ _ _ h => h) (Or.inl ⟨rfl, ?hs18⟩) hHeld ?rs18
          case hs18 => intro wq hSw; (try dsimp only at hSw); go_simp; all_goals (with_reducible rfl)
          (try simp only [Act.put]); (try simp only [List.setIfInBounds_toArray]); (try simp only [List.set_cons_succ]); (try simp only [List.set_cons_zero])
          refine wpAnyH_ready (rs := [9]) (by kernel_rfl) (by simp) ?_
          refine AllReadyH.cons rfl (fun K hK => ?_) AllReadyH.nil
          go_simp
          skip
          try (go_wp2_with fail)
          refine hK.out _ _ ?_ (fun hHeld => ?_)
          · exact (by first | exact KG.out _ (carry bx hbW) (carry bl hbW) | exact KG.out _ bxn bln | exact KG.out _ ((heap_setCell_other _ _ _ _ hgne0).trans bxn) ((heap_setCell_other _ _ _ _ hgne).trans bln))
          clear hK K
          (try simp only [Act.put]); (try simp only [List.setIfInBounds_toArray]); (try simp only [List.set_cons_succ]); (try simp only [List.set_cons_zero])
          refine wpAnyH_done (by kernel_rfl) ?_ _
          refine ⟨_, _, _, _, _, _, _, _, _, g5, cap5, rfl, ?_⟩
          have hbase := NU.grown_bel (hbw.mono (Nat.le_refl _)) (NU.own_mono o4 (by omega)) hgrow hbw.size
          have hgk : ∀ (g : Nat) (cs : Array Value) (T : TypeId), y.heap[g]? = some (Obj.cells cs T (0, 0)) → T ≠ 9 → g ≠ gB → (xn.setCell ⟨gB, 1, none⟩ (.slice (some ⟨g5, 0, none⟩) (ks.length + 1) cap5)).heap[g]? = y.heap[g]? := fun g cs T hg hT hne => by
            rw [heap_setCell_other _ _ _ _ hne, blk_grown1 (carry hg hbW) o4 hgrow hT, hg]
          exact ⟨AB.heap_set (i := 1) b3n (by show 1 < 2; omega), ho.keep fun g cs T hg hT _ => hgk g cs T hg (by rcases hT with rfl | rfl <;> decide) (fun e => by rw [e, b30] at hg; cases hg; rcases hT with h | h <;> exact absurd h (by decide)), OT.snoc (row_set hown1 b3n (by decide)), (hgk _ _ _ br (by decide) (by omega)).trans br, hbase.setCell (p := ⟨gB, 1, none⟩) (by show w.heap.size ≤ gB; omega) _⟩
        · go_simp
          (go_at_call 54; refine (HEN.out _ hbw).mono ?_; rintro e V2 ⟨rfl, hq⟩; have hbw := bel2 hbw hq; have b3 := (hq.block _ (Array.getElem?_eq_some_iff.1 b3).1).trans b3; have hbW := bel2 hbW hq; clear hq v0 v1 vf; obtain ⟨v0, v1, vf⟩ := I4.blk2a b3)
          try (go_wp2_with fail)
          refine hK.out _ _ ?_ (fun hHeld => ?_)
          · exact (by first | exact KG.out _ (carry bx hbW) (carry bl hbW) | exact KG.out _ bxn bln | exact KG.out _ ((heap_setCell_other _ _ _ _ hgne0).trans bxn) ((heap_setCell_other _ _ _ _ hgne).trans bln))
          clear hK K
          try simp only [Act.put, List.setIfInBounds_toArray, List.set_cons_zero, List.set_cons_succ]
          refine wpAnyH_ready (rs := [1, 5]) (by kernel_rfl) (by simp) ?_
          refine AllReadyH.cons rfl (fun K hK => ?_) (AllReadyH.cons rfl (fun K hK => ?_) AllReadyH.nil)
          · go_simp
            skip
            try (go_wp2_with fail)
            refine hK.out _ _ ?_ (fun hHeld => ?_)
            · exact (by first | exact KG.out _ (carry bx hbW) (carry bl hbW) | exact KG.out _ bxn bln | exact KG.out _ ((heap_setCell_other _ _ _ _ hgne0).trans bxn) ((heap_setCell_other _ _ _ _ hgne).trans bln))
            clear hK K
            try simp only [Act.put, List.setIfInBounds_toArray, List.set_cons_zero, List.set_cons_succ]
            refine wpAnyH_ready (rs := [5]) (by kernel_rfl) (by simp) ?_
            refine AllReadyH.cons rfl (fun K hK => ?_) AllReadyH.nil
            go_simp
            (go_at_call 62; refine (HLK.out _ hbw).mono ?_; rintro e V3 ⟨rfl, hq⟩; have hbw := bel2 hbw hq; have b3 := (hq.block _ (Array.getElem?_eq_some_iff.1 b3).1).trans b3; have hbW := bel2 hbW hq; clear hq v0 v1 vf; obtain ⟨v0, v1, vf⟩ := I4.blk2a b3)
            try (go_wp2_with fail)
            refine hK.out _ _ ?_ (fun hHeld => ?_)
            · exact (by first | exact KG.out _ (carry bx hbW) (carry bl hbW) | exact KG.out _ bxn bln | exact KG.out _ ((heap_setCell_other _ _ _ _ hgne0).trans bxn) ((heap_setCell_other _ _ _ _ hgne).trans bln))
            clear hK K
            try simp only [Act.put, List.setIfInBounds_toArray, List.set_cons_zero, List.set_cons_succ]
            refine wpAnyH_ready (rs := [6]) (by kernel_rfl) (by simp) ?_
            refine AllReadyH.cons rfl (fun K hK => ?_) AllReadyH.nil
            go_simp
            (have b3 := carryA b3 (.cells #[.string lk] 9); have hnews := I1.one_str V3 lk 9; have hb4 := albel V3 (.cells #[.string lk] 9); have hbw := bel2 hbw hb4; have hbW := bel2 hbW hb4; clear hb4; generalize V3.alloc (.cells #[.string lk] 9) = V4 at *; generalize V3.heap.size = g3 at *; clear v0 v1 vf; obtain ⟨v0, v1, vf⟩ := I4.blk2a b3)
            try (go_wp2_with fail)
            refine hK.out _ _ ?_ (fun hHeld => ?_)
            · exact (by first | exact KG.out _ (carry bx hbW) (carry bl hbW) | exact KG.out _ bxn bln | exact KG.out _ ((heap_setCell_other _ _ _ _ hgne0).trans bxn) ((heap_setCell_other _ _ _ _ hgne).trans bln))
            clear hK K
            try simp only [Act.put, List.setIfInBounds_toArray, List.set_cons_zero, List.set_cons_succ]
            refine wpAnyH_ready (rs := [7]) (by kernel_rfl) (by simp) ?_
            refine AllReadyH.cons rfl (fun K hK => ?_) AllReadyH.nil
            (have o4 := NU.own_below hk hbW; have hbs := Nat.le_trans hBc hbW.size; refine NU.step_app (by rfl) _ _ 24 9 (by rfl) (w.heap.size + 1 + 1 + 1) (.string ⟨#[]⟩) 1 16 Tryd.underlying24 I1.info_str (by rfl) (by decide) (by decide) (.slice x2 y2 z2) _ _ (by rfl) o4 (by omega) ⟨g3, 0, none⟩ 1 [.string lk] (by rfl) (by rfl) hnews (by simp [Value.oneCell']) hbs ?_; intro g5 cap5 xn hown1 hgrow hat hlt1; have b3n := blk_grown1 b3 o4 hgrow (by decide); clear v0 v1 vf; obtain ⟨v0, v1, vf⟩ := I4.blk2a b3n; have bln := blk_grown1 (carry bl hbW) o4 hgrow (by decide); have bxn := blk_grown1 (carry bx hbW) o4 hgrow (by decide))
            refine hK.out _ _ ?_ (fun hHeld => ?_)
            · exact (by first | exact KG.out _ (carry bx hbW) (carry bl hbW) | exact KG.out _ bxn bln | exact KG.out _ ((heap_setCell_other _ _ _ _ hgne0).trans bxn) ((heap_setCell_other _ _ _ _ hgne).trans bln))
            clear hK K
            (try simp only [Act.put]); (try simp only [List.setIfInBounds_toArray]); (try simp only [List.set_cons_succ]); (try simp only [List.set_cons_zero])
            refine TK.take_at 8 (some 28) (v := ?vs28) rfl rfl (by kernel_rfl) (by kernel_rfl) (by kernel_rfl) (fun _ _ _ h => h) (Or.inl ⟨rfl, ?hs28⟩) hHeld ?rs28
            case hs28 => intro wq hSw; (try dsimp only at hSw); go_simp; all_goals (with_reducible rfl)
            (try simp only [Act.put]); (try simp only [List.setIfInBounds_toArray]); (try simp only [List.set_cons_succ]); (try simp only [List.set_cons_zero])
            refine wpAnyH_ready (rs := [9]) (by kernel_rfl) (by simp) ?_
            refine AllReadyH.cons rfl (fun K hK => ?_) AllReadyH.nil
            go_simp
            skip
            try (go_wp2_with fail)
            refine hK.out _ _ ?_ (fun hHeld => ?_)
            · exact (by first | exact KG.out _ (carry bx hbW) (carry bl hbW) | exact KG.out _ bxn bln | exact KG.out _ ((heap_setCell_other _ _ _ _ hgne0).trans bxn) ((heap_setCell_other _ _ _ _ hgne).trans bln))
            clear hK K
            (try simp only [Act.put]); (try simp only [List.setIfInBounds_toArray]); (try simp only [List.set_cons_succ]); (try simp only [List.set_cons_zero])
            refine wpAnyH_done (by kernel_rfl) ?_ _
            refine ⟨_, _, _, _, _, _, _, _, _, g5, cap5, rfl, ?_⟩
            have hbase := NU.grown_bel (hbw.mono (Nat.le_refl _)) (NU.own_mono o4 (by omega)) hgrow hbw.size
            have hgk : ∀ (g : Nat) (cs : Array Value) (T : TypeId), y.heap[g]? = some (Obj.cells cs T (0, 0)) → T ≠ 9 → g ≠ gB → (xn.setCell ⟨gB, 1, none⟩ (.slice (some ⟨g5, 0, none⟩) (ks.length + 1) cap5)).heap[g]? = y.heap[g]? := fun g cs T hg hT hne => by
              rw [heap_setCell_other _ _ _ _ hne, blk_grown1 (carry hg hbW) o4 hgrow hT, hg]
            exact ⟨AB.heap_set (i := 1) b3n (by show 1 < 2; omega), ho.keep fun g cs T hg hT _ => hgk g cs T hg (by rcases hT with rfl | rfl <;> decide) (fun e => by rw [e, b30] at hg; cases hg; rcases hT with h | h <;> exact absurd h (by decide)), OT.snoc (row_set hown1 b3n (by decide)), (hgk _ _ _ br (by decide) (by omega)).trans br, hbase.setCell (p := ⟨gB, 1, none⟩) (by show w.heap.size ≤ gB; omega) _⟩
          · go_simp
            (go_at_call 62; refine (HLK.out _ hbw).mono ?_; rintro e V3 ⟨rfl, hq⟩; have hbw := bel2 hbw hq; have b3 := (hq.block _ (Array.getElem?_eq_some_iff.1 b3).1).trans b3; have hbW := bel2 hbW hq; clear hq v0 v1 vf; obtain ⟨v0, v1, vf⟩ := I4.blk2a b3)
            try (go_wp2_with fail)
            refine hK.out _ _ ?_ (fun hHeld => ?_)
            · exact (by first | exact KG.out _ (carry bx hbW) (carry bl hbW) | exact KG.out _ bxn bln | exact KG.out _ ((heap_setCell_other _ _ _ _ hgne0).trans bxn) ((heap_setCell_other _ _ _ _ hgne).trans bln))
            clear hK K
            try simp only [Act.put, List.setIfInBounds_toArray, List.set_cons_zero, List.set_cons_succ]
            refine wpAnyH_ready (rs := [1, 6]) (by kernel_rfl) (by simp) ?_
            refine AllReadyH.cons rfl (fun K hK => ?_) (AllReadyH.cons rfl (fun K hK => ?_) AllReadyH.nil)
            · go_simp
              skip
              try (go_wp2_with fail)
              refine hK.out _ _ ?_ (fun hHeld => ?_)
              · exact (by first | exact KG.out _ (carry bx hbW) (carry bl hbW) | exact KG.out _ bxn bln | exact KG.out _ ((heap_setCell_other _ _ _ _ hgne0).trans bxn) ((heap_setCell_other _ _ _ _ hgne).trans bln))
              clear hK K
              try simp only [Act.put, List.setIfInBounds_toArray, List.set_cons_zero, List.set_cons_succ]
              refine wpAnyH_ready (rs := [6]) (by kernel_rfl) (by simp) ?_
              refine AllReadyH.cons rfl (fun K hK => ?_) AllReadyH.nil
              go_simp
              (have b3 := carryA b3 (.cells #[.string lk] 9); have hnews := I1.one_str V3 lk 9; have hb4 := albel V3 (.cells #[.string lk] 9); have hbw := bel2 hbw hb4; have hbW := bel2 hbW hb4; clear hb4; generalize V3.alloc (.cells #[.string lk] 9) = V4 at *; generalize V3.heap.size = g3 at *; clear v0 v1 vf; obtain ⟨v0, v1, vf⟩ := I4.blk2a b3)
              try (go_wp2_with fail)
              refine hK.out _ _ ?_ (fun hHeld => ?_)
              · exact (by first | exact KG.out _ (carry bx hbW) (carry bl hbW) | exact KG.out _ bxn bln | exact KG.out _ ((heap_setCell_other _ _ _ _ hgne0).trans bxn) ((heap_setCell_other _ _ _ _ hgne).trans bln))
              clear hK K
              try simp only [Act.put, List.setIfInBounds_toArray, List.set_cons_zero, List.set_cons_succ]
              refine wpAnyH_ready (rs := [7]) (by kernel_rfl) (by simp) ?_
              refine AllReadyH.cons rfl (fun K hK => ?_) AllReadyH.nil
              (have o4 := NU.own_below hk hbW; have hbs := Nat.le_trans hBc hbW.size; refine NU.step_app (by rfl) _ _ 24 9 (by rfl) (w.heap.size + 1 + 1 + 1) (.string ⟨#[]⟩) 1 16 Tryd.underlying24 I1.info_str (by rfl) (by decide) (by decide) (.slice x2 y2 z2) _ _ (by rfl) o4 (by omega) ⟨g3, 0, none⟩ 1 [.string lk] (by rfl) (by rfl) hnews (by simp [Value.oneCell']) hbs ?_; intro g5 cap5 xn hown1 hgrow hat hlt1; have b3n := blk_grown1 b3 o4 hgrow (by decide); clear v0 v1 vf; obtain ⟨v0, v1, vf⟩ := I4.blk2a b3n; have bln := blk_grown1 (carry bl hbW) o4 hgrow (by decide); have bxn := blk_grown1 (carry bx hbW) o4 hgrow (by decide))
              refine hK.out _ _ ?_ (fun hHeld => ?_)
              · exact (by first | exact KG.out _ (carry bx hbW) (carry bl hbW) | exact KG.out _ bxn bln | exact KG.out _ ((heap_setCell_other _ _ _ _ hgne0).trans bxn) ((heap_setCell_other _ _ _ _ hgne).trans bln))
              clear hK K
              (try simp only [Act.put]); (try simp only [List.setIfInBounds_toArray]); (try simp only [List.set_cons_succ]); (try simp only [List.set_cons_zero])
              refine TK.take_at 8 (some 28) (v := ?vs38) rfl rfl (by kernel_rfl) (by kernel_rfl) (by kernel_rfl) (fun _ _ _ h => h) (Or.inl ⟨rfl, ?hs38⟩) hHeld ?rs38
              case hs38 => intro wq hSw; (try dsimp only at hSw); go_simp; all_goals (with_reducible rfl)
              (try simp only [Act.put]); (try simp only [List.setIfInBounds_toArray]); (try simp only [List.set_cons_succ]); (try simp only [List.set_cons_zero])
              refine wpAnyH_ready (rs := [9]) (by kernel_rfl) (by simp) ?_
              refine AllReadyH.cons rfl (fun K hK => ?_) AllReadyH.nil
              go_simp
              skip
              try (go_wp2_with fail)
              refine hK.out _ _ ?_ (fun hHeld => ?_)
              · exact (by first | exact KG.out _ (carry bx hbW) (carry bl hbW) | exact KG.out _ bxn bln | exact KG.out _ ((heap_setCell_other _ _ _ _ hgne0).trans bxn) ((heap_setCell_other _ _ _ _ hgne).trans bln))
              clear hK K
              (try simp only [Act.put]); (try simp only [List.setIfInBounds_toArray]); (try simp only [List.set_cons_succ]); (try simp only [List.set_cons_zero])
              refine wpAnyH_done (by kernel_rfl) ?_ _
              refine ⟨_, _, _, _, _, _, _, _, _, g5, cap5, rfl, ?_⟩
              have hbase := NU.grown_bel (hbw.mono (Nat.le_refl _)) (NU.own_mono o4 (by omega)) hgrow hbw.size
              have hgk : ∀ (g : Nat) (cs : Array Value) (T : TypeId), y.heap[g]? = some (Obj.cells cs T (0, 0)) → T ≠ 9 → g ≠ gB → (xn.setCell ⟨gB, 1, none⟩ (.slice (some ⟨g5, 0, none⟩) (ks.length + 1) cap5)).heap[g]? = y.heap[g]? := fun g cs T hg hT hne => by
                rw [heap_setCell_other _ _ _ _ hne, blk_grown1 (carry hg hbW) o4 hgrow hT, hg]
              exact ⟨AB.heap_set (i := 1) b3n (by show 1 < 2; omega), ho.keep fun g cs T hg hT _ => hgk g cs T hg (by rcases hT with rfl | rfl <;> decide) (fun e => by rw [e, b30] at hg; cases hg; rcases hT with h | h <;> exact absurd h (by decide)), OT.snoc (row_set hown1 b3n (by decide)), (hgk _ _ _ br (by decide) (by omega)).trans br, hbase.setCell (p := ⟨gB, 1, none⟩) (by show w.heap.size ≤ gB; omega) _⟩
            · go_simp
              (have b3 := carryA b3 (.cells #[.string lk] 9); have hnews := I1.one_str V3 lk 9; have hb4 := albel V3 (.cells #[.string lk] 9); have hbw := bel2 hbw hb4; have hbW := bel2 hbW hb4; clear hb4; generalize V3.alloc (.cells #[.string lk] 9) = V4 at *; generalize V3.heap.size = g3 at *; clear v0 v1 vf; obtain ⟨v0, v1, vf⟩ := I4.blk2a b3)
              try (go_wp2_with fail)
              refine hK.out _ _ ?_ (fun hHeld => ?_)
              · exact (by first | exact KG.out _ (carry bx hbW) (carry bl hbW) | exact KG.out _ bxn bln | exact KG.out _ ((heap_setCell_other _ _ _ _ hgne0).trans bxn) ((heap_setCell_other _ _ _ _ hgne).trans bln))
              clear hK K
              try simp only [Act.put, List.setIfInBounds_toArray, List.set_cons_zero, List.set_cons_succ]
              refine wpAnyH_ready (rs := [1]) (by kernel_rfl) (by simp) ?_
              refine AllReadyH.cons rfl (fun K hK => ?_) AllReadyH.nil
              go_simp
              skip
              try (go_wp2_with fail)
              refine hK.out _ _ ?_ (fun hHeld => ?_)
              · exact (by first | exact KG.out _ (carry bx hbW) (carry bl hbW) | exact KG.out _ bxn bln | exact KG.out _ ((heap_setCell_other _ _ _ _ hgne0).trans bxn) ((heap_setCell_other _ _ _ _ hgne).trans bln))
              clear hK K
              try simp only [Act.put, List.setIfInBounds_toArray, List.set_cons_zero, List.set_cons_succ]
              refine wpAnyH_ready (rs := [7]) (by kernel_rfl) (by simp) ?_
              refine AllReadyH.cons rfl (fun K hK => ?_) AllReadyH.nil
              (have o4 := NU.own_below hk hbW; have hbs := Nat.le_trans hBc hbW.size; refine NU.step_app (by rfl) _ _ 24 9 (by rfl) (w.heap.size + 1 + 1 + 1) (.string ⟨#[]⟩) 1 16 Tryd.underlying24 I1.info_str (by rfl) (by decide) (by decide) (.slice x2 y2 z2) _ _ (by rfl) o4 (by omega) ⟨g3, 0, none⟩ 1 [.string lk] (by rfl) (by rfl) hnews (by simp [Value.oneCell']) hbs ?_; intro g5 cap5 xn hown1 hgrow hat hlt1; have b3n := blk_grown1 b3 o4 hgrow (by decide); clear v0 v1 vf; obtain ⟨v0, v1, vf⟩ := I4.blk2a b3n; have bln := blk_grown1 (carry bl hbW) o4 hgrow (by decide); have bxn := blk_grown1 (carry bx hbW) o4 hgrow (by decide))
              refine hK.out _ _ ?_ (fun hHeld => ?_)
              · exact (by first | exact KG.out _ (carry bx hbW) (carry bl hbW) | exact KG.out _ bxn bln | exact KG.out _ ((heap_setCell_other _ _ _ _ hgne0).trans bxn) ((heap_setCell_other _ _ _ _ hgne).trans bln))
              clear hK K
              (try simp only [Act.put]); (try simp only [List.setIfInBounds_toArray]); (try simp only [List.set_cons_succ]); (try simp only [List.set_cons_zero])
              refine TK.take_at 8 (some 28) (v := ?vs48) rfl rfl (by kernel_rfl) (by kernel_rfl) (by kernel_rfl) (fun _ _ _ h => h) (Or.inl ⟨rfl, ?hs48⟩) hHeld ?rs48
              case hs48 => intro wq hSw; (try dsimp only at hSw); go_simp; all_goals (with_reducible rfl)
              (try simp only [Act.put]); (try simp only [List.setIfInBounds_toArray]); (try simp only [List.set_cons_succ]); (try simp only [List.set_cons_zero])
              refine wpAnyH_ready (rs := [9]) (by kernel_rfl) (by simp) ?_
              refine AllReadyH.cons rfl (fun K hK => ?_) AllReadyH.nil
              go_simp
              skip
              try (go_wp2_with fail)
              refine hK.out _ _ ?_ (fun hHeld => ?_)
              · exact (by first | exact KG.out _ (carry bx hbW) (carry bl hbW) | exact KG.out _ bxn bln | exact KG.out _ ((heap_setCell_other _ _ _ _ hgne0).trans bxn) ((heap_setCell_other _ _ _ _ hgne).trans bln))
              clear hK K
              (try simp only [Act.put]); (try simp only [List.setIfInBounds_toArray]); (try simp only [List.set_cons_succ]); (try simp only [List.set_cons_zero])
              refine wpAnyH_done (by kernel_rfl) ?_ _
              refine ⟨_, _, _, _, _, _, _, _, _, g5, cap5, rfl, ?_⟩
              have hbase := NU.grown_bel (hbw.mono (Nat.le_refl _)) (NU.own_mono o4 (by omega)) hgrow hbw.size
              have hgk : ∀ (g : Nat) (cs : Array Value) (T : TypeId), y.heap[g]? = some (Obj.cells cs T (0, 0)) → T ≠ 9 → g ≠ gB → (xn.setCell ⟨gB, 1, none⟩ (.slice (some ⟨g5, 0, none⟩) (ks.length + 1) cap5)).heap[g]? = y.heap[g]? := fun g cs T hg hT hne => by
                rw [heap_setCell_other _ _ _ _ hne, blk_grown1 (carry hg hbW) o4 hgrow hT, hg]
              exact ⟨AB.heap_set (i := 1) b3n (by show 1 < 2; omega), ho.keep fun g cs T hg hT _ => hgk g cs T hg (by rcases hT with rfl | rfl <;> decide) (fun e => by rw [e, b30] at hg; cases hg; rcases hT with h | h <;> exact absurd h (by decide)), OT.snoc (row_set hown1 b3n (by decide)), (hgk _ _ _ br (by decide) (by omega)).trans br, hbase.setCell (p := ⟨gB, 1, none⟩) (by show w.heap.size ≤ gB; omega) _⟩
      · rintro a' z ⟨q20, q21, q22, q23, q24, q25, q26, q27, q28, g5, cap5, rfl, hb3, hol, hok, hbr, hbz⟩
        have HR3 : Hid _ := hbr
        have HOL3 : Hid (OLs w.heap.size z (.slice (some ⟨gg, 0, none⟩) (ls.length + 1) cap1) (ls ++ [⟨kind, name, sum, cs⟩])) := hol.mono (by omega)
        have HOK3 : Hid (OT w.heap.size z (.slice (some ⟨g5, 0, none⟩) (ks.length + 1) cap5) (ks ++ [lk])) := NU.own_mono hok (by omega)
        have HB3 : Hid _ := hbz
        obtain ⟨v0, v1, vf⟩ := I4.blk2a hb3
        obtain ⟨r0, r1, r2, rf⟩ := blk3a hbr
        clear hb3 hol hok hbr hbz HX2 HA2 HR2 HV2 HOL2 HOK2 HB2 bl bx br b30 hk ho hB hBc KG HEN HLK
        go_wp2
        have hb1 := AB.heap_set (i := 0) (v := .slice (some ⟨gg, 0, none⟩) (ls.length + 1) cap1) HR3.out (by show 0 < 3; omega)
        have hb2 := AB.heap_set (i := 1) (v := .slice (some ⟨g5, 0, none⟩) (ks.length + 1) cap5) hb1 (by show 1 < 3; omega)
        have hT : (33 : TypeId) ≠ 29 ∧ (33 : TypeId) ≠ 2 := by decide
        refine bodyPost_ret (v := .agg #[.slice (some ⟨gg, 0, none⟩) (ls.length + 1) cap1, .slice (some ⟨g5, 0, none⟩) (ks.length + 1) cap5, .int .i64 0]) (by simp [results, Tryd.results41, go_sem, r0, r1, r2]) rfl ⟨_, _, rfl, ?_, ?_, ?_⟩
        · exact ols_set (ols_set (ols_set HOL3.out HR3.out hT) hb1 hT) hb2 hT
        · exact row_set (row_set (row_set HOK3.out HR3.out (by decide)) hb1 (by decide)) hb2 (by decide)
        · exact ((HB3.out.setCell (by show w.heap.size ≤ w.heap.size + 1 + 1; omega) _).setCell (by show w.heap.size ≤ w.heap.size + 1 + 1; omega) _).setCell (by show w.heap.size ≤ w.heap.size + 1 + 1; omega) _
end Go.Proofs.YtkpjdmmgdmbmnaaDoor.IK
