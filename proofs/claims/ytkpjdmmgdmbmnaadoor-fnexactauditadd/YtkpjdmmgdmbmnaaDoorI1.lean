/-
  The text of a line, in the program, and the specification's answer at any line.
-/
import Derived.Test.YtkpjdmmgdmbmnaaDoorI0
import Derived.Test.YtkpjdmmgdmbmnaaDoorA2
import Derived.Test.YtkpjdmmgdmbmnaaDoorA4
import Derived.Test.YtkpjdmmgdmbmnaaDoorNU
import Derived.Deep.RegionHeld3
namespace Go.Proofs.YtkpjdmmgdmbmnaaDoor.I1
open Go.RowKit
open Go.Proofs.YtkpjdmmgdmbmnaaDoor.C0 Go.Proofs.YtkpjdmmgdmbmnaaDoor.HB
open Go.Proofs.YtkpjdmmgdmbmnaaDoor.A0 Go.Proofs.YtkpjdmmgdmbmnaaDoor.A1 Go.Proofs.YtkpjdmmgdmbmnaaDoor.A2 Go.Proofs.YtkpjdmmgdmbmnaaDoor.A4
def OT (B : Nat) (w : World) (v : Value) (l : List ByteArray) : Prop := w.ownsRow B 9 1 v l.length (l.map Value.string)
def textR (x : Ln) : ByteArray := if lineB x = true then lineT x else ⟨#[]⟩
def partsT (x : Ln) (k : Nat) : List ByteArray := [numL x.kind, textL x.name, textL x.sum, numL (x.cards.length : Int)] ++ (List.range k).map fun i => numL (iAt x.cards i)
theorem parts_length (x : Ln) (k : Nat) : (partsT x k).length = 4 + k := by simp [partsT]; omega
theorem parts_succ (x : Ln) (k : Nat) : partsT x (k + 1) = partsT x k ++ [numL (iAt x.cards k)] := by simp [partsT, List.range_succ]
theorem cat_append (a b : List ByteArray) : C2.cat (a ++ b) = C2.cat a ++ C2.cat b := by
  induction a with
  | nil => rfl
  | cons s r ih => simp [C2.cat, ih]
theorem total_append (a b : List ByteArray) : C2.total (a ++ b) = C2.total a + C2.total b := by
  induction a with
  | nil => simp [C2.total]
  | cons s r ih => simp [C2.total, ih]; omega
theorem cat_parts (x : Ln) : ∀ k, (⟨(C2.cat (partsT x k)).toArray⟩ : ByteArray) = upT x k
  | 0 => by
    apply ByteArray.ext
    simp [partsT, upT, baseT, C2.cat]
  | k + 1 => by
    rw [parts_succ, cat_append]
    show _ = upT x k ++ numL (iAt x.cards k)
    rw [← cat_parts x k]
    apply ByteArray.ext
    simp [C2.cat]
theorem total_parts (x : Ln) (k : Nat) : C2.total (partsT x k) = (upT x k).size := by
  rw [← cat_parts, ← C2.cat_length]; simp [ByteArray.size]
theorem cells4 (w : World) (a b c d : ByteArray) : ∀ j, j < 4 → (w.alloc (.cells #[.string a, .string b, .string c, .string d] 9)).cell? ⟨w.heap.size, 0 + j, none⟩ = some (.string ([a, b, c, d].getD j ⟨#[]⟩)) := by
  intro j hj
  match j, hj with
  | 0, _ => simp [go_sem]
  | 1, _ => simp [go_sem]
  | 2, _ => simp [go_sem]
  | 3, _ => simp [go_sem]
theorem own4 (w : World) (B : Nat) (a b c d : ByteArray) (hB : B ≤ w.heap.size) : OT B (w.alloc (.cells #[.string a, .string b, .string c, .string d] 9)) (.slice (some ⟨w.heap.size, 0, none⟩) 4 4) [a, b, c, d] :=
  ⟨rfl, .inr ⟨w.heap.size, 4, _, rfl, hB, heap_alloc_new _ _, Nat.le_refl _, by unfold maxLen; omega, rfl, rfl⟩⟩
theorem OT.below {B : Nat} {w w' : World} {v : Value} {l : List ByteArray} (h : OT B w v l) (hb : Below w.heap.size w w') : OT B w' v l := NU.own_below h hb
theorem OT.snoc {B : Nat} {w : World} {v : Value} {l : List ByteArray} {s : ByteArray} (h : w.ownsRow B 9 1 v (l.length + 1) (l.map Value.string ++ [.string s])) : OT B w v (l ++ [s]) := by
  unfold OT; simpa using h
theorem OT.cells {B : Nat} {w : World} {g n cap : Nat} {l : List ByteArray} (h : OT B w (.slice (some ⟨g, 0, none⟩) n cap) l) : g < w.heap.size ∧ ∀ j, j < l.length → w.cell? ⟨g, 0 + j, none⟩ = some (.string (l.getD j ⟨#[]⟩)) := by
  refine ⟨(h.lt g rfl).2, fun j hj => ?_⟩
  have h3 := World.ownsRow.cells h rfl j (.string (l.getD j ⟨#[]⟩)) (by simp [hj])
  rw [NU.add0] at h3
  exact h3
structure Gr (B : Nat) (w0 : World) (v : Value) (l : List ByteArray) (w : World) : Prop where
  own : OT B w v l
  bel : Below B w0 w
  size : B ≤ w.heap.size
theorem Gr.below {B : Nat} {w0 w w' : World} {v : Value} {l : List ByteArray} (h : Gr B w0 v l w) (hb : Below w.heap.size w w') : Gr B w0 v l w' :=
  ⟨h.own.below hb, h.bel.trans (hb.mono h.size), Nat.le_trans h.size hb.size⟩
theorem info_str : (Tryd.prog.info? 9).map (fun i => (i.zero, i.size, i.bytes)) = some (some (.string ⟨#[]⟩), 1, 16) := by kernel_rfl
theorem one_str (w : World) (s : ByteArray) (T : TypeId) : ∀ j u, [Value.string s][j]? = some u → (w.alloc (.cells #[.string s] T)).cell? ((⟨w.heap.size, 0, none⟩ : Addr).add j) = some u :=
  World.news_of_block (Go.Deep.blk_alloc_new _ _)
def ok64 (n : Int) : Prop := -9223372036854775808 ≤ n ∧ n ≤ 9223372036854775807
def okT (s : ByteArray) : Prop := s.size ≤ maxLen
theorem blk4f {w : World} {g : Nat} {a b c d : Value} {T : TypeId} (h : w.heap[g]? = some (.cells #[a, b, c, d] T (0, 0))) : w.cell? ⟨g, 0, none⟩ = some a ∧ w.cell? ⟨g, 1, none⟩ = some b ∧ w.cell? ⟨g, 2, none⟩ = some c ∧ w.cell? ⟨g, 3, none⟩ = some d ∧ ∀ o, w.frozen? ⟨g, o, none⟩ = false :=
  ⟨by simp [World.cell?, h], by simp [World.cell?, h], by simp [World.cell?, h], by simp [World.cell?, h], fun o => by simp [World.frozen?, h]⟩
theorem kept4s {W x : World} {g : Nat} {a b c d : Value} {T : TypeId} (k : W.heap[g]? = some (.cells #[a, b, c, d] T (0, 0))) (hx : Below W.heap.size W x) :
    x.cell? ⟨g, 0, none⟩ = some a ∧ x.cell? ⟨g, 1, none⟩ = some b ∧ x.cell? ⟨g, 2, none⟩ = some c ∧ x.cell? ⟨g, 3, none⟩ = some d :=
  ⟨block_cell (carry k hx) 0, block_cell (carry k hx) 1, block_cell (carry k hx) 2, block_cell (carry k hx) 3⟩
theorem num_any (n : Int) (w : World) (h : ok64 n) : Calls Tryd.prog 48 #[.int .i64 n] w fun e w' => e = .returned (.string (numL n)) ∧ Below w.heap.size w w' := C1.put_impl n w h.1 h.2
theorem text_any (s : ByteArray) (w : World) (h : okT s) : Calls Tryd.prog 49 #[.string s] w fun e w' => e = .returned (.string (textL s)) ∧ Below w.heap.size w w' := C3.put_impl s w h
set_option maxRecDepth 100000 in
set_option maxHeartbeats 3200000 in
theorem text_impl (x : Ln) (vc : Value) (w : World) (hv : IRow w vc x.cards) (hx : LnW x) :
    Calls Tryd.prog 16 #[lnV x vc] w fun e w' => e = .returned (.string (textR x)) ∧ Below w.heap.size w w' := by
  have hC := fun W (hW : Below w.heap.size w W) => I0.line_impl x vc W (hv.below hW) hx.1 hx.2.1
  have HD : Hid (textR x = if lineB x = true then lineT x else ⟨#[]⟩) := rfl
  have hv' := hv
  obtain ⟨a, cap, rfl, hl, hc⟩ := hv
  cases hb : lineB x with
  | false =>
    have HE : Hid (textR x = ⟨#[]⟩) := by unfold Hid; rw [HD.out, hb]; rfl
    rw [HE.out]
    rw [hb] at hC
    obtain ⟨kind, name, sum, cs⟩ := x
    unfold lnV at hC ⊢
    dsimp only at *
    clear HD HE hb hc hv' hx
    go_enter Tryd.func16, Tryd.ntmps16
    go_wp2_with fail
    refine (hC _ (albel w _)).mono ?_
    rintro e w1 ⟨rfl, hb1⟩
    have HB : Hid (Below w.heap.size w w1) := bel2 (albel w _) hb1
    clear hb1
    go_wp2
    go_ret
    exact ⟨rfl, HB.out⟩
  | true =>
    have hsm := line_small hb
    have HE : Hid (textR x = lineT x) := by unfold Hid; rw [HD.out, hb]; rfl
    rw [HE.out]
    rw [hb] at hC
    have HT : Hid (lineT x = ⟨(C2.cat (partsT x x.cards.length)).toArray⟩) := by unfold Hid; rw [cat_parts]; rfl
    have HZ : Hid (C2.total (partsT x x.cards.length) ≤ 1000000) := by unfold Hid; rw [total_parts]; have := hsm.2; unfold lineT at this; omega
    have HS : Hid (∀ k, partsT x (k + 1) = partsT x k ++ [numL (iAt x.cards k)]) := parts_succ x
    have HL : Hid (∀ k, (partsT x k).length = 4 + k) := parts_length x
    have HP : Hid (∀ k, k < x.cards.length → ok64 (iAt x.cards k)) := fun k hk => hx.2.2.2 _ (by unfold iAt; rw [List.getD_eq_getElem?_getD, List.getElem?_eq_getElem hk]; exact List.getElem_mem hk)
    have H4 : Hid (partsT x 0 = [numL x.kind, textL x.name, textL x.sum, numL (x.cards.length : Int)]) := by unfold Hid partsT; simp
    rw [HT.out]
    obtain ⟨kind, name, sum, cs⟩ := x
    unfold lnV at hC ⊢
    dsimp only at *
    have g1 : ok64 kind := hx.2.2.1
    have g2 : okT name := hx.1
    have g3 : okT sum := hx.2.1
    have g4 : ok64 (cs.length : Int) := ⟨by have := hsm.1; omega, by have := hsm.1; omega⟩
    have hc6 : cs.length ≤ 6 := hsm.1
    clear HD HE HT hb hx hsm hl
    generalize partsT ⟨kind, name, sum, cs⟩ = pt at *
    have k0 := heap_alloc_new w (.cells #[.int .i64 kind, .string name, .string sum, .slice a cs.length cap] 29)
    have B0 := albel w (.cells #[.int .i64 kind, .string name, .string sum, .slice a cs.length cap] 29)
    have hc2 : Hid (0 < cs.length → ∃ b off, a = some ⟨b, off, none⟩ ∧ b < w.heap.size ∧ ∀ i s, cs[i]? = some s → w.cell? ⟨b, off + i, none⟩ = some (.int .i64 s)) := hc
    clear hc hv'
    go_enter Tryd.func16, Tryd.ntmps16
    go_wp2_with fail
    refine (hC _ B0).mono ?_
    rintro e W ⟨rfl, hb1⟩
    have KC : Hid _ := carry k0 hb1
    have B1 : Hid (Below w.heap.size w W) := bel2 B0 hb1
    obtain ⟨q0, q1, q2, q3, qf⟩ := blk4f KC.out
    clear k0 B0 hb1 hC
    go_wp2_with fail
    go_region_held3 (fun x => x.cell? ⟨w.heap.size, 0, none⟩ = some (.int .i64 kind) ∧ x.cell? ⟨w.heap.size, 1, none⟩ = some (.string name) ∧ x.cell? ⟨w.heap.size, 2, none⟩ = some (.string sum) ∧ x.cell? ⟨w.heap.size, 3, none⟩ = some (.slice a cs.length cap))
      (first
        | (with_reducible exact kept4s KC.out BN)
        | (with_reducible exact kept4s KC.out (Below.refl _ _).drew)
        | (with_reducible exact kept4s KC.out (bel2 BN (albel _ _)))
        | go_keep)
      (first
        | (go_at_call 48; refine (num_any _ _ ?_).mono ?_; assumption; rintro e wn ⟨rfl, hbn⟩; have BN : Below W.heap.size W wn := (by first | exact bel2 BN hbn | exact undrew hbn))
        | (go_at_call 49; refine (text_any _ _ ?_).mono ?_; assumption; rintro e wn ⟨rfl, hbn⟩; have BN : Below W.heap.size W wn := bel2 BN hbn))
    have BB : Hid (Below w.heap.size w wn) := bel2 B1.out BN
    have G0 : Hid (Gr w.heap.size w (.slice (some ⟨wn.heap.size, 0, none⟩) 4 4) (pt 0) (wn.alloc (.cells #[.string (numL kind), .string (textL name), .string (textL sum), .string (numL (cs.length : Int))] 9))) :=
      ⟨by rw [H4.out]; exact own4 wn w.heap.size _ _ _ _ BB.out.size, BB.out.alloc BB.out.size _, Nat.le_trans BB.out.size (by simp)⟩
    have c3 : Hid ((wn.alloc (.cells #[.string (numL kind), .string (textL name), .string (textL sum), .string (numL (cs.length : Int))] 9)).cell? ⟨w.heap.size, 3, none⟩ = some (.slice a cs.length cap)) :=
      (kept4s KC.out (bel2 BN (albel _ _))).2.2.2
    clear BB BN hbn q0 q1 q2 q3 qf KC B1 H4
    generalize hW2 : wn.alloc (.cells #[.string (numL kind), .string (textL name), .string (textL sum), .string (numL (cs.length : Int))] 9) = W2 at *
    generalize wn.heap.size = gg at *
    clear hW2
    have c3' := c3.out
    go_wp2_with fail
    go_loopw [3, 26] (fun t j x => ∃ k : Nat, k ≤ cs.length ∧ j = .int .i64 (k : Nat) ∧ Gr w.heap.size w t (pt k) x) (fun _ j _ => cs.length - (intOf j).toNat)
    case atStart => exact ⟨0, Nat.zero_le _, rfl, G0.out⟩
    case round =>
      clear G0 c3 c3'
      obtain ⟨k, hk, rfl, hgro⟩ := hrel
      by_cases hlt : k < cs.length
      · have hlt' : (k : Int) < (cs.length : Int) := by omega
        obtain ⟨b, off, rfl, hb, hcc⟩ := hc2.out (by omega)
        have KW : wr.cell? ⟨b, off + k, none⟩ = some (.int .i64 (iAt cs k)) := (hgro.bel.cell (p := ⟨b, off + k, none⟩) hb).trans (hcc k _ (iAt_get hlt))
        have hok := HP.out k hlt
        have HG : Hid (Gr w.heap.size w u3 (pt k) wr) := hgro
        have HT : Hid (pt (k + 1) = pt k ++ [numL (iAt cs k)]) := HS.out k
        have HTn : Hid ((pt k).length = 4 + k) := HL.out k
        clear hgro hcc hb
        generalize iAt cs k = nk at *
        go_wp2_with fail
        refine (num_any nk _ hok).mono ?_
        rintro e w3 ⟨rfl, hb3⟩
        have G3 : Hid (Gr w.heap.size w u3 (pt k) w3) := HG.out.below hb3
        have G4 : Hid (Gr w.heap.size w u3 (pt k) (w3.alloc (.cells #[.string (numL nk)] 9))) := G3.out.below (albel _ _)
        clear hb3 HG KW
        generalize numL nk = mt at *
        generalize hL1 : pt k = L1 at *
        go_wp2_with (first
          | (at_builtin; refine NU.list_app (by rfl) _ _ 24 9 (by rfl) w.heap.size (.string ⟨#[]⟩) 1 16 Tryd.underlying24 info_str (by rfl) (by decide) (by decide) u3 _ _ (by rfl) G4.out.own (by have := HTn.out; omega) ⟨w3.heap.size, 0, none⟩ 1 [.string mt] (by rfl) (by rfl) (one_str _ _ _) (by simp [Value.oneCell']) G4.out.size ?_; intro gg2 cap1 xn hown1 hgrow hat hlt1))
        have HE : Hid (Gr w.heap.size w (.slice (some ⟨gg2, 0, none⟩) (L1.length + 1) cap1) (pt (k + 1)) xn) :=
          ⟨by rw [HT.out]; exact OT.snoc hown1, NU.grown_bel G4.out.bel G4.out.own hgrow G4.out.size, Nat.le_trans G4.out.size hgrow.size⟩
        clear hown1 hgrow hat hlt1
        go_wp2
        go_roundw
        case rel => exact ⟨k + 1, by omega, by go_num, HE.out⟩
        case measure => simp [intOf]; omega
      · obtain rfl : k = cs.length := by omega
        have HF : Hid (∃ g cap, u3 = .slice (some ⟨g, 0, none⟩) (pt cs.length).length cap ∧ OT w.heap.size wr (.slice (some ⟨g, 0, none⟩) (pt cs.length).length cap) (pt cs.length) ∧ Below w.heap.size w wr ∧ w.heap.size ≤ wr.heap.size) := by
          have h := hgro.own
          rcases h.2 with ⟨h1, h0⟩ | ⟨g, cap, cur, h1, _⟩
          · have := HL.out cs.length; omega
          · exact ⟨g, cap, h1, h1 ▸ h, hgro.bel, hgro.size⟩
        clear hgro
        obtain ⟨g, cap2, rfl, hF1, hF2, hF3⟩ := HF.out
        have HJ : Hid (∀ (ln : Nat), (pt cs.length).length = ln → Calls Tryd.prog 50 #[.slice (some ⟨g, 0, none⟩) ln cap2] wr fun e w' => e = .returned (.string ⟨(C2.cat (pt cs.length)).toArray⟩) ∧ Below wr.heap.size wr w') := fun ln hln =>
          C2.joined_any g 0 ln cap2 (pt cs.length) wr hln.symm hF1.cells.1 (by have := HL.out cs.length; omega) HZ.out (fun j hj => by have := hF1.cells.2 j (by omega); simpa [hj, hln] using this)
        have HB : Hid (Below w.heap.size w wr) := hF2
        clear HF hF1 hF2 hF3 hc2
        go_wp2_with fail
        refine (HJ.out _ rfl).mono ?_
        rintro e w4 ⟨rfl, hb4⟩
        have HB4 : Hid (Below w.heap.size w w4) := bel2 HB.out hb4
        clear hb4
        go_wp2
        go_ret
        exact ⟨rfl, HB4.out⟩
set_option maxRecDepth 100000 in
set_option maxHeartbeats 3200000 in
theorem textR_spec (x : Ln) (vc : Value) (w : World) (hv : IRow w vc x.cards) (hx : LnW x) :
    Calls Tryd.prog 17 #[lnV x vc] w fun e w' => e = .returned (.string (textR x)) ∧ Below w.heap.size w w' := by
  have hC := fun W (hW : Below w.heap.size w W) => A1.line_spec x vc W (hv.below hW) hx.1 hx.2.1
  have HD : Hid (textR x = if lineB x = true then lineT x else ⟨#[]⟩) := rfl
  have hv' : Hid (IRow w vc x.cards) := hv
  obtain ⟨a, cap, rfl, hl, hc⟩ := hv
  cases hb : lineB x with
  | false =>
    have HE : Hid (textR x = ⟨#[]⟩) := by unfold Hid; rw [HD.out, hb]; rfl
    rw [HE.out]
    rw [hb] at hC
    obtain ⟨kind, name, sum, cs⟩ := x
    unfold lnV at hC ⊢
    dsimp only at *
    clear HD HE hb hc hv' hx
    go_enter Tryd.func17, Tryd.ntmps17
    go_wp2_with fail
    refine (hC _ (albel w _)).mono ?_
    rintro e w1 ⟨rfl, hb1⟩
    have HB : Hid (Below w.heap.size w w1) := bel2 (albel w _) hb1
    clear hb1
    go_wp2
    go_ret
    exact ⟨rfl, HB.out⟩
  | true =>
    have hsm := line_small hb
    have HE : Hid (textR x = lineT x) := by unfold Hid; rw [HD.out, hb]; rfl
    rw [HE.out]
    rw [hb] at hC
    have HT : Hid (∀ W, Below w.heap.size w W → Calls Tryd.prog 51 #[lnV x (.slice a x.cards.length cap)] W fun e w' => e = .returned (.string (lineT x)) ∧ Below W.heap.size W w') := fun W hW =>
      A2.text_spec x _ W (hv'.out.below hW) hx.1 hx.2.1 hx.2.2.1.1 hx.2.2.1.2 hx.2.2.2 (by have := hsm.1; omega)
    obtain ⟨kind, name, sum, cs⟩ := x
    unfold lnV at hC HT ⊢
    dsimp only at *
    have KC : Hid _ := heap_alloc_new w (.cells #[.int .i64 kind, .string name, .string sum, .slice a cs.length cap] 29)
    clear HD HE hb hc hv' hx hsm
    generalize lineT ⟨kind, name, sum, cs⟩ = lt at *
    go_enter Tryd.func17, Tryd.ntmps17
    go_wp2_with fail
    refine (hC _ (albel w _)).mono ?_
    rintro e w1 ⟨rfl, hb1⟩
    have HB : Hid (Below w.heap.size w w1) := bel2 (albel w _) hb1
    obtain ⟨q0, q1, q2, q3, qf⟩ := blk4f (carry KC.out hb1)
    clear hb1
    go_wp2_with fail
    refine (HT.out _ HB.out).mono ?_
    rintro e w2 ⟨rfl, hb2⟩
    have HB2 : Hid (Below w.heap.size w w2) := bel2 HB.out hb2
    clear hb2
    go_wp2
    go_ret
    exact ⟨rfl, HB2.out⟩
end Go.Proofs.YtkpjdmmgdmbmnaaDoor.I1
