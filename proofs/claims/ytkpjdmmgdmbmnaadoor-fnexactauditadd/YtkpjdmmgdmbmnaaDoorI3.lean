/-
  Whether a log is right, in the program.
-/
import Derived.Test.YtkpjdmmgdmbmnaaDoorI2
import Derived.Deep.SlicePairs
namespace Go.Proofs.YtkpjdmmgdmbmnaaDoor.I3
open Go.RowKit
open Go.Proofs.YtkpjdmmgdmbmnaaDoor.C0 Go.Proofs.YtkpjdmmgdmbmnaaDoor.HB
open Go.Proofs.YtkpjdmmgdmbmnaaDoor.A0 Go.Proofs.YtkpjdmmgdmbmnaaDoor.A1 Go.Proofs.YtkpjdmmgdmbmnaaDoor.A2 Go.Proofs.YtkpjdmmgdmbmnaaDoor.A3 Go.Proofs.YtkpjdmmgdmbmnaaDoor.A4 Go.Proofs.YtkpjdmmgdmbmnaaDoor.I1 Go.Proofs.YtkpjdmmgdmbmnaaDoor.I2
open Go.Proofs.YtkpjdmmgdmbmnaaDoor.K3 (bytesOf)
attribute [local go_sem] Oper.semAt_some
theorem bytes_eq {a b : ByteArray} (h : (a.toList == b.toList) = true) : a = b := by
  have h := eq_of_beq h
  rw [ByteArray.toList_eq, ByteArray.toList_eq] at h
  exact ByteArray.ext (Array.ext' h)
theorem link_right {ls : List Ln} {k : Nat} (h : lineB (lAt ls k) = true) : linkT (prevN ls k) (lAt ls k) = linkN ls k := by
  rw [link_prev]
  unfold textR
  rw [if_pos h]
  rfl
theorem last_prev {ls : List Ln} {ks : List ByteArray} : ∀ k, upLk linkT ls ks k = true → lastAt ks k = prevN ls k
  | 0, _ => rfl
  | k + 1, h => by
    unfold upLk at h
    obtain ⟨h1, h2⟩ := Bool.and_eq_true_iff.1 h
    unfold okLk at h2
    obtain ⟨h3, h4⟩ := Bool.and_eq_true_iff.1 h2
    rw [last_prev k h1, link_right h3] at h4
    exact bytes_eq h4
def goodN (ls : List Ln) (ks : List ByteArray) (k : Nat) : Bool := lineB (lAt ls k) && (sAt ks k).toList == (linkN ls k).toList
theorem ok_good {ls : List Ln} {ks : List ByteArray} {k : Nat} (h : upLk linkT ls ks k = true) : okLk linkT ls ks k = goodN ls ks k := by
  unfold okLk goodN
  rw [last_prev k h]
  cases hb : lineB (lAt ls k) with
  | false => rfl
  | true => rw [link_right hb]
theorem range_snoc {pre : List Nat} {x : Nat} (h : pre ++ [x] = List.range (pre ++ [x]).length) : pre = List.range pre.length ∧ x = pre.length := by
  rw [List.length_append, List.length_singleton, List.range_succ] at h
  exact ⟨List.append_inj_left' h rfl, by simpa using List.append_inj_right' h rfl⟩
/-- What has come so far is right, where it came in order. -/
def Chk (ls : List Ln) (ks : List ByteArray) (pre : List Nat) : Prop := pre = List.range pre.length → upLk linkT ls ks pre.length = true
theorem Chk.snoc {ls : List Ln} {ks : List ByteArray} {pre : List Nat} {x : Nat} (h : Chk ls ks pre) (hg : lineB (lAt ls x) = true ∧ ((sAt ks pre.length).toList == (linkN ls x).toList) = true) : Chk ls ks (pre ++ [x]) := fun e => by
  obtain ⟨e1, rfl⟩ := range_snoc e
  rw [List.length_append, List.length_singleton]
  exact upLk_yes (h e1) (by rw [ok_good (h e1)]; unfold goodN; rw [hg.1, hg.2]; rfl)
theorem Chk.bad {ls : List Ln} {ks : List ByteArray} {pre : List Nat} {x : Nat} (h : Chk ls ks pre) (hl : pre.length < ls.length) (hg : lineB (lAt ls x) = false ∨ ((sAt ks pre.length).toList == (linkN ls x).toList) = false) (e : pre ++ [x] = List.range (pre ++ [x]).length) : auditB linkT ls ks = false := by
  obtain ⟨e1, rfl⟩ := range_snoc e
  refine audit_no hl ?_
  rw [ok_good (h e1)]
  unfold goodN
  rcases hg with q | q
  · rw [q]; rfl
  · rw [q]; simp
theorem keeps_bel {W W' : World} (hb : Below W.heap.size W W') : KeepsOthers W W' :=
  ⟨hb.size, fun k _ hk _ => (hb.block k (Array.getElem?_eq_some_iff.1 hk).1).trans hk⟩
theorem blk_own {β : Type} (B : Nat) (f : β → Obj) (hf : ∀ s, (f s).isCells = true) : Own (fun (s : β) W => W.heap[B]? = some (f s)) := fun s X Y row hs hg hrow =>
  (hg.block B (Array.getElem?_eq_some_iff.1 hs).1 (fun e' => by obtain ⟨o, ho, hc⟩ := hrow B e'.symm; rw [hs] at ho; cases ho; rw [hf s] at hc; cases hc)).trans hs
theorem fine_z : LnW lnZ := ⟨Nat.zero_le _, Nat.zero_le _, ⟨by decide, by decide⟩, by intro c hc; cases hc⟩
theorem lAt_out {ls : List Ln} {k : Nat} (h : ¬ k < ls.length) : lAt ls k = lnZ := by unfold lAt; simp [List.getD_eq_getElem?_getD, List.getElem?_eq_none (Nat.not_lt.1 h)]
theorem irow_nil (w : World) : IRow w (.slice none 0 0) [] := ⟨none, 0, rfl, Nat.zero_le _, fun h => absurd h (by decide)⟩
theorem lies_of {w : World} {a : Option Addr} {cap : Nat} {ls : List Ln} (hv : LRow w (.slice a ls.length cap) ls) (hw : ∀ x ∈ ls, LnW x) : ∃ vcs, Lies w a ls vcs := by
  obtain ⟨a', cap', he, hl, hc⟩ := hv
  cases he
  by_cases h0 : 0 < ls.length
  · obtain ⟨b, off, rfl, hb, hcc⟩ := hc h0
    have each : ∀ k, k < ls.length → ∃ vc, IRow w vc (lAt ls k).cards ∧ w.cell? ⟨b, off + k * 4, none⟩ = some (.int .i64 (lAt ls k).kind) ∧ w.cell? ⟨b, off + k * 4 + 1, none⟩ = some (.string (lAt ls k).name) ∧ w.cell? ⟨b, off + k * 4 + 2, none⟩ = some (.string (lAt ls k).sum) ∧ w.cell? ⟨b, off + k * 4 + 3, none⟩ = some vc := fun k hk => hcc k _ (lAt_get hk)
    haveI : Inhabited Value := ⟨undef⟩
    obtain ⟨q, hq⟩ := Go.Deep.choose_lt each
    refine ⟨fun k => if k < ls.length then q k else .slice none 0 0, fun k => ?_, fun k => ?_, fun _ => ⟨b, off, rfl, hb, fun k hk => ?_⟩, hl⟩
    · by_cases hk : k < ls.length
      · exact hw _ (List.mem_of_getElem? (lAt_get hk))
      · rw [lAt_out hk]; exact fine_z
    · by_cases hk : k < ls.length
      · rw [if_pos hk]; exact (hq k hk).1
      · rw [if_neg hk, lAt_out hk]; exact irow_nil w
    · rw [if_pos hk]; exact (hq k hk).2
  · refine ⟨fun _ => .slice none 0 0, fun k => ?_, fun k => ?_, fun h => absurd h h0, hl⟩
    · rw [lAt_out (by omega)]; exact fine_z
    · rw [lAt_out (by omega)]; exact irow_nil w
theorem linked_impl (a : Option Addr) (n cap : Nat) (w : World) :
    Calls Tryd.prog 61 #[.slice a n cap] w fun e w' => e = .returned (.func (.func 91) #[] #[.pointer (some ⟨w.heap.size, 0, none⟩)]) ∧ w' = w.alloc (.cells #[.slice a n cap] 23) := by
  go_enter Tryd.func61, Tryd.ntmps61
  go_wp2
  go_ret
  exact ⟨rfl, rfl⟩
set_option maxRecDepth 100000 in
set_option maxHeartbeats 3200000 in
theorem right_impl (vl vk : Value) (ls : List Ln) (ks : List ByteArray) (w : World) (hL : K2.Laid w) (hv : LRow w vl ls) (hu : SRow w vk ks) (hw : ∀ x ∈ ls, LnW x) :
    Calls Tryd.prog 22 #[.agg #[vl, vk]] w fun e w' => e = .returned (.bool (auditB linkT ls ks)) ∧ Below w.heap.size w w' := by
  have hv' := hv
  obtain ⟨a, cap, rfl, hl, _⟩ := hv
  obtain ⟨a2, cap2, rfl, hl2, hc2⟩ := hu
  obtain ⟨vcs, hlies⟩ := lies_of hv' hw
  unfold maxLen at hl hl2
  clear hv' hw
  by_cases h12 : ls.length ≤ 12
  · by_cases heq : ks.length = ls.length
    · have HV : Hid (auditB linkT ls ks = upLk linkT ls ks ls.length) := by unfold Hid auditB; rw [decide_eq_true h12, decide_eq_true heq]; rfl
      have t1 : decide ((12 : Int) < (ls.length : Int)) = false := decide_eq_false (by omega)
      rw [heq]
      have HIN : Hid (∀ W, Below w.heap.size w W → ∀ k, k < ls.length → ∃ b off, a2 = some ⟨b, off, none⟩ ∧ W.cell? ⟨b, off + k, none⟩ = some (.string (sAt ks k))) := fun W hW k hk => by
        obtain ⟨b, off, e, hb, hcc⟩ := hc2 (by omega)
        exact ⟨b, off, e, (hW.cell (p := ⟨b, off + k, none⟩) hb).trans (hcc k _ (sAt_get (by omega)))⟩
      clear hc2
      refine (callsIn_wide (n := 6)).1 ?_
      refine callsIn_of_wp_marks Tryd.func22 rfl trivial ?_ rfl
      simp only [Tryd.ntmps22, List.size_toArray, List.length_cons, List.length_nil, Nat.reduceAdd, Nat.reduceSub, Array.replicate_succ, Array.replicate_zero, List.push_toArray, List.append_toArray, List.nil_append, List.cons_append]
      gi_wp2_with fail
      refine ⟨trivial, (callsIn_wide.2 (linked_impl _ _ _ _)).mono ?_⟩
      rintro e w' ⟨rfl, rfl⟩
      gi_wp2_with fail
      have bA := (((heap_alloc_new w (.cells #[.slice a ls.length cap, .slice a2 ls.length cap2] 26)))) 
      have B0 := albel w (.cells #[.slice a ls.length cap, .slice a2 ls.length cap2] 26)
      obtain ⟨w1, hw1⟩ : ∃ x, w.alloc (.cells #[.slice a ls.length cap, .slice a2 ls.length cap2] 26) = x := ⟨_, rfl⟩
      have s1 : w1.heap.size = w.heap.size + 1 := by rw [← hw1]; simp
      rw [hw1] at bA B0
      rw [hw1]
      have bR := Boxed.new w1 4 (.bool false)
      rw [s1] at bR
      have b1 := carryA bA (.cells #[.bool false] 4)
      have B1 := B0.alloc (by omega) (.cells #[.bool false] 4)
      obtain ⟨w2, hw2⟩ : ∃ x, w1.alloc (.cells #[.bool false] 4) = x := ⟨_, rfl⟩
      have s2 : w2.heap.size = w.heap.size + 2 := by rw [← hw2]; simp; omega
      rw [hw2] at bR b1 B1
      rw [hw2]
      have bP := Boxed.new w2 3 (.int .i64 0)
      rw [s2] at bP
      have b2 := carryA b1 (.cells #[.int .i64 0] 3)
      have bR2 := bR.alloc (.cells #[.int .i64 0] 3)
      have B2 := B1.alloc (by omega) (.cells #[.int .i64 0] 3)
      obtain ⟨w3, hw3⟩ : ∃ x, w2.alloc (.cells #[.int .i64 0] 3) = x := ⟨_, rfl⟩
      have s3 : w3.heap.size = w.heap.size + 3 := by rw [← hw3]; simp; omega
      rw [hw3] at bP b2 bR2 B2
      rw [hw3]
      have bL := Boxed.new w3 23 (.slice a ls.length cap)
      rw [s3] at bL
      have b3 := carryA b2 (.cells #[.slice a ls.length cap] 23)
      have bR3 := bR2.alloc (.cells #[.slice a ls.length cap] 23)
      have bP3 := bP.alloc (.cells #[.slice a ls.length cap] 23)
      have B3 := B2.alloc (by omega) (.cells #[.slice a ls.length cap] 23)
      obtain ⟨W0, hW0⟩ : ∃ x, w3.alloc (.cells #[.slice a ls.length cap] 23) = x := ⟨_, rfl⟩
      have s4 : W0.heap.size = w.heap.size + 4 := by rw [← hW0]; simp; omega
      rw [hW0] at bL b3 bR3 bP3 B3
      rw [hW0]
      clear hw1 hw2 hw3 hW0 bA B0 bR b1 B1 bP b2 bR2 B2 s1 s2 s3
      refine wpIn_rangeFunc_ownH rfl (by omega) (gf := 91) (lb := #[.pointer (some ⟨w.heap.size + 1 + 1 + 1, 0, none⟩)]) rfl trivial (enters_of Tryd.func91 (by kernel_rfl) rfl)
        (linked_stops (6 - 1) (by omega) w W0 (w.heap.size + 1 + 1 + 1) cap a ls vcs hL B3 (by omega) bL.cell hlies) belowK_t (belowK_b (by omega)) (Below.refl _ _) (fun _ => rfl)
        (fun pre W => (((W.heap[w.heap.size]? = some (.cells #[.slice a ls.length cap, .slice a2 ls.length cap2] 26 (0, 0)) ∧ Boxed W (w.heap.size + 1) 4 (.bool false)) ∧ Boxed W (w.heap.size + 1 + 1) 3 (.int .i64 (pre.length : Nat))) ∧ Chk ls ks pre) ∧ Below w.heap.size w W)
        (fun c pre W => ((c = .ret ∧ (pre = List.range pre.length → auditB linkT ls ks = false)) ∧ Boxed W (w.heap.size + 1) 4 (.bool false)) ∧ Below w.heap.size w W)
        (OwnFrom.and (OwnFrom.and (OwnFrom.and (OwnFrom.and (Own.from (blk_own _ _ (fun _ => rfl)) _) (Own.from (boxed_own _ _ _) _)) (Own.from (boxed_own _ _ _) _)) (ownFrom_pure _ _)) (ownFrom_below (Nat.le_refl _) (by omega)))
        (fun c => OwnFrom.and (OwnFrom.and (ownFrom_pure _ _) (Own.from (boxed_own _ _ _) _)) (ownFrom_below (Nat.le_refl _) (by omega)))
        ⟨⟨⟨⟨b3, bR3⟩, bP3⟩, fun _ => rfl⟩, B3⟩
        (fun x a' W => ∃ Bx, w.heap.size + 2 < Bx ∧ W.heap[Bx]? = some (.cells #[.int .i64 (lAt ls x).kind, .string (lAt ls x).name, .string (lAt ls x).sum, vcs x] 29 (0, 0)) ∧ a' = { tmps := #[.agg #[.slice a ls.length cap, .slice a2 ls.length cap2], .pointer (some ⟨w.heap.size, 0, none⟩), .pointer (some ⟨w.heap.size + 1, 0, none⟩), .pointer (some ⟨w.heap.size + 1 + 1, 0, none⟩), .pointer (some ⟨Bx, 0, none⟩), .string (linkN ls x), .pointer (some ⟨w.heap.size, 0, none⟩), .slice a ls.length cap, .int .i64 ls.length, .bool false, .bool false, .pointer (some ⟨w.heap.size, 1, none⟩), .slice a2 ls.length cap2, .int .i64 ls.length, .pointer (some ⟨w.heap.size, 0, none⟩), .slice a ls.length cap, .int .i64 ls.length, .bool false, .bool false, .pointer (some ⟨w.heap.size, 0, none⟩), .slice a ls.length cap, .func (.func 91) #[] #[.pointer (some ⟨w.heap.size + 1 + 1 + 1, 0, none⟩)], lnV (lAt ls x) (vcs x), .string (linkN ls x), undef, undef, undef, undef, undef, undef, undef, undef, undef, undef, undef, undef, undef, undef], defers := [] })
        (fun x a' _ X Y row hs hg hr => by obtain ⟨Bx, h1, h2, h3⟩ := hs; exact ⟨Bx, h1, blk_own Bx (fun (_ : Unit) => Obj.cells #[.int .i64 (lAt ls x).kind, .string (lAt ls x).name, .string (lAt ls x).sum, vcs x] 29 (0, 0)) (fun _ => rfl) () X Y row h2 hg (fun r e => (hr r e).2), h3⟩)
        ?assign ?body ?done ?stop
      case assign =>
        rintro l pre x W K ⟨⟨⟨⟨bA, bR⟩, bP⟩, hchk⟩, hB⟩ hK
        obtain ⟨av, cv, hve, _, _⟩ := hlies.cards x
        unfold I2.encs lnV
        unfold lnV at hK
        rw [hve] at hK ⊢
        gi_wp2
        exact hK _ _ ((KeepsOthers.alloc _ _).from _) ((Below.refl _ W).alloc hB.size _) ⟨⟨⟨⟨carryA bA _, bR.alloc _⟩, bP.alloc _⟩, hchk⟩, hB.alloc hB.size _⟩ ⟨W.heap.size, by have := bP.lt; omega, heap_alloc_new _ _, rfl⟩
      case body =>
        rintro l pre x a' W _ _ ⟨⟨⟨⟨bA, bR⟩, bP⟩, hchk⟩, hB⟩ ⟨Bx, _, bX, rfl⟩ hlt
        have hck := hlies.cards x
        have hxx := hlies.fine x
        obtain ⟨av, cv, hve, _, _⟩ := hlies.cards x
        unfold lnV
        rw [hve] at bX hck ⊢
        have HC : Hid (∀ Y, Below w.heap.size w Y → Calls Tryd.prog 20 #[lnV (lAt ls x) (.slice av (lAt ls x).cards.length cv)] Y fun e w' => e = .returned (.bool (lineB (lAt ls x))) ∧ Below Y.heap.size Y w') := fun Y hY => I0.line_impl (lAt ls x) _ Y (hck.below hY) hxx.1 hxx.2.1
        have HOK : Hid (lineB (lAt ls x) = true ∧ ((sAt ks pre.length).toList == (linkN ls x).toList) = true → Chk ls ks (pre ++ [x])) := hchk.snoc
        have HNO : Hid (lineB (lAt ls x) = false ∨ ((sAt ks pre.length).toList == (linkN ls x).toList) = false → pre ++ [x] = List.range (pre ++ [x]).length → auditB linkT ls ks = false) := fun h e => hchk.bad hlt h e
        have hpl : Hid ((pre ++ [x]).length = pre.length + 1) := by unfold Hid; simp
        have HIN2 : Hid (∀ Y, Below w.heap.size w Y → ∃ b off, a2 = some ⟨b, off, none⟩ ∧ Y.cell? ⟨b, off + pre.length, none⟩ = some (.string (sAt ks pre.length))) := fun Y hY => HIN.out Y hY _ hlt
        unfold lnV at HC
        clear hck hxx hve hchk HIN hlies hL t1 HV bL b3 bR3 bP3 B3
        generalize hlx : lineB (lAt ls x) = lb at *
        generalize lAt ls x = ln at *
        obtain ⟨kind, name, sum, cs⟩ := ln
        dsimp only at *
        obtain ⟨x0, x1, x2, x3, xf⟩ := blk4f bX
        generalize linkN ls x = lk at *
        generalize sAt ks pre.length = sk at *
        gi_wp2_with fail
        refine ⟨trivial, (CallsIn.inRound l (callsIn_wide.2 (HC.out _ hB))).mono ?_⟩
        rintro e Y ⟨rfl, hbY⟩
        have HBY : Hid (Below w.heap.size w Y) := bel2 hB hbY
        have HKY : Hid (KeepsOthers W Y) := keeps_bel hbY
        have HWY : Hid (Below w.heap.size W Y) := hbY.mono hB.size
        have cA : Hid (Y.heap[w.heap.size]? = some (.cells #[.slice a ls.length cap, .slice a2 ls.length cap2] 26 (0, 0))) := carry bA hbY
        have cR : Hid (Boxed Y (w.heap.size + 1) 4 (.bool false)) := carry bR hbY
        have cP : Hid (Boxed Y (w.heap.size + 1 + 1) 3 (.int .i64 (pre.length : Nat))) := carry bP hbY
        clear hbY x0 x1 x2 x3 xf bX HC bA bR bP hB
        have y0 := block_cell cA.out 0
        have y1 := block_cell cA.out 1
        have yr := cR.out.cell
        have yrf := cR.out.frozen
        have yp := cP.out.cell
        have ypf := cP.out.frozen
        cases lb with
        | false =>
          gi_wp2
          exact ⟨(HKY.out.trans (KeepsOthers.setCell _ _ _)).from _, ⟨⟨rfl, HNO.out (by first | exact .inl rfl | exact .inl trivial)⟩, cR.out.set _⟩, HBY.out.setCell (p := ⟨w.heap.size + 1, 0, none⟩) (by simp) _⟩
        | true =>
          obtain ⟨b2, off2, rfl, hk2⟩ := HIN2.out Y HBY.out
          have hlt' : (pre.length : Int) < (ls.length : Int) := by omega
          cases hq : (sk.toList == lk.toList) with
          | false =>
            gi_wp2
            exact ⟨(HKY.out.trans (KeepsOthers.setCell _ _ _)).from _, ⟨⟨rfl, HNO.out (.inr hq)⟩, cR.out.set _⟩, HBY.out.setCell (p := ⟨w.heap.size + 1, 0, none⟩) (by simp) _⟩
          | true =>
            have HOK2 : Hid (Chk ls ks (pre ++ [x])) := HOK.out ⟨rfl, hq⟩
            have hwr : IntKind.i64.wrap ((pre.length : Int) + 1) = ((pre.length + 1 : Nat) : Int) := by rw [IntKind.wrap_i64]; omega
            gi_wp2
            refine ⟨(HKY.out.trans (KeepsOthers.setCell _ _ _)).from _, HWY.out.setCell (p := ⟨w.heap.size + 1 + 1, 0, none⟩) (by simp; omega) _, ⟨⟨⟨⟨?_, cR.out.other (by omega) _⟩, ?_⟩, HOK2.out⟩, HBY.out.setCell (p := ⟨w.heap.size + 1 + 1, 0, none⟩) (by simp; omega) _⟩⟩
            · rw [heap_setCell_other _ _ _ _ (by show w.heap.size ≠ w.heap.size + 1 + 1; omega)]; exact cA.out
            · rw [hpl.out]; exact cP.out.set _
      case done =>
        rintro D xs W hD rfl ⟨⟨⟨⟨bA, bR⟩, bP⟩, hchk⟩, hB⟩ hK
        have HR : Hid (auditB linkT ls ks = true) := by
          have h := hchk (by simp)
          rw [List.length_range] at h
          unfold Hid
          rw [HV.out]; exact h
        have yr := bR.cell
        have yrf := bR.frozen
        gi_wp2
        have hK' := (KeepsOthers.setCell W ⟨w.heap.size + 1, 0, none⟩ (.bool true)).same D _ hK rfl
        refine ⟨by simp, .inl ⟨_, _, rfl, run_takeDeferred hK', ?_⟩⟩
        have hc5 := cell_kept (bR.set (.bool true)).cell (grownBy_putObj' _ D (.deferred none)) (fun r e => by cases e; exact ⟨_, hK', rfl⟩)
        refine ⟨.bool true, ?_, by rw [HR.out], (hB.setCell (p := ⟨w.heap.size + 1, 0, none⟩) (by simp) _).trans (belowK_b (w := w) (Nat.le_refl _) _ D _ _ (by omega) hK' rfl rfl)⟩
        simp [results, Tryd.results22, go_sem, hc5]
      case stop =>
        rintro D c pre W hD ⟨k, hk, rfl⟩ ⟨⟨⟨rfl, hbad⟩, bR⟩, hB⟩ hK
        have HR : Hid (auditB linkT ls ks = false) := hbad (by simp)
        gi_wp2
        refine ⟨by simp, .inl ⟨_, _, rfl, run_takeDeferred hK, ?_⟩⟩
        have hc5 := cell_kept bR.cell (grownBy_putObj' _ D (.deferred none)) (fun r e => by cases e; exact ⟨_, hK, rfl⟩)
        refine ⟨.bool false, ?_, by rw [HR.out], hB.trans (belowK_b (w := w) (Nat.le_refl _) W D _ _ (by omega) hK rfl rfl)⟩
        simp [results, Tryd.results22, go_sem, hc5]
    · have HV : Hid (auditB linkT ls ks = false) := by unfold Hid auditB; rw [decide_eq_false heq]; simp
      have t1 : decide ((12 : Int) < (ls.length : Int)) = false := decide_eq_false (by omega)
      have t2 : ((ks.length : Int) == (ls.length : Int)) = false := by simp; omega
      rw [HV.out]
      clear hlies hc2 hL
      have BB : Hid (Below w.heap.size w ((w.alloc (.cells #[.slice a ls.length cap, .slice a2 ks.length cap2] 26)).alloc (.cells #[.bool false] 4))) := (albel w _).alloc (by simp) _
      go_enter Tryd.func22, Tryd.ntmps22
      go_wp2
      refine bodyPost_ret (v := .bool false) (by simp [results, Tryd.results22, go_sem]) rfl ⟨rfl, BB.out⟩
  · have HV : Hid (auditB linkT ls ks = false) := by unfold Hid auditB; rw [decide_eq_false h12]; simp
    have t1 : decide ((12 : Int) < (ls.length : Int)) = true := decide_eq_true (by omega)
    rw [HV.out]
    clear hlies hc2 hL
    have BB : Hid (Below w.heap.size w ((w.alloc (.cells #[.slice a ls.length cap, .slice a2 ks.length cap2] 26)).alloc (.cells #[.bool false] 4))) := (albel w _).alloc (by simp) _
    go_enter Tryd.func22, Tryd.ntmps22
    go_wp2
    refine bodyPost_ret (v := .bool false) (by simp [results, Tryd.results22, go_sem]) rfl ⟨rfl, BB.out⟩
end Go.Proofs.YtkpjdmmgdmbmnaaDoor.I3
