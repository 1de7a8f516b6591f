/-
  The laws' own copy of a row of lines, and of a log; a log measured and compared.
-/
import Derived.Test.YtkpjdmmgdmbmnaaDoorA9
namespace Go.Proofs.YtkpjdmmgdmbmnaaDoor.AA
open Go.RowKit
open Go.Proofs.YtkpjdmmgdmbmnaaDoor.C0 Go.Proofs.YtkpjdmmgdmbmnaaDoor.HB
open Go.Proofs.YtkpjdmmgdmbmnaaDoor.A0 Go.Proofs.YtkpjdmmgdmbmnaaDoor.A1 Go.Proofs.YtkpjdmmgdmbmnaaDoor.A4 Go.Proofs.YtkpjdmmgdmbmnaaDoor.A7 Go.Proofs.YtkpjdmmgdmbmnaaDoor.A9
open Go.Proofs.YtkpjdmmgdmbmnaaDoor.A6 (OIRow add0)
theorem run_make_row4 {P : Program} (t e : TypeId) (z : Value) (bytes : Nat) (ht : P.underlying t = some (.slice e)) (hinfo : (P.info? e).map (fun i => (i.zero, i.size, i.bytes)) = some (some z, 4, bytes))
    (kl kc : IntKind) (n : Nat) (hbytes : bytes * n ≤ 281474976710656) (h63 : n ≤ 9223372036854775807) (w : World) :
    (Instr.makeSlice t (.int kl (n : Int)) (.int kc (n : Int))).run P w = .ok (.slice (some ⟨w.heap.size, 0, none⟩) n n) (w.alloc (.cells (madeCells z.cells (n * 4)) e)) := by
  obtain ⟨i, hi, hzz⟩ := Option.map_eq_some_iff.1 hinfo
  simp only [Prod.mk.injEq] at hzz
  obtain ⟨hz, hs, hb⟩ := hzz
  have hb' : (i.bytes : Int) * (n : Int) ≤ 281474976710656 := by
    rw [hb]
    have h : ((bytes * n : Nat) : Int) ≤ 281474976710656 := by omega
    rwa [Int.natCast_mul] at h
  have hr := run_make (P := P) w t e i z ht hi hz kl kc n n (by omega) (Int.le_refl _) hb' (by omega)
  simp only [Int.toNat_natCast, hs] at hr
  exact hr
/-- A row of lines that lies in blocks from B on, its numbers' rows too. -/
def OLRow (B : Nat) (w : World) (v : Value) (l : List Ln) : Prop :=
  ∃ (a : Option Addr) (cap : Nat), v = .slice a l.length cap ∧ (l.length ≤ maxLen ∧ l.length ≤ cap) ∧
    (0 < l.length → ∃ b off, a = some ⟨b, off, none⟩ ∧ B ≤ b ∧ b < w.heap.size ∧ ∀ i x, l[i]? = some x → ∃ vc, OIRow B w vc x.cards ∧
      w.cell? ⟨b, off + i * 4, none⟩ = some (.int .i64 x.kind) ∧ w.cell? ⟨b, off + i * 4 + 1, none⟩ = some (.string x.name) ∧ w.cell? ⟨b, off + i * 4 + 2, none⟩ = some (.string x.sum) ∧ w.cell? ⟨b, off + i * 4 + 3, none⟩ = some vc)
theorem OLRow.lrow {B : Nat} {w : World} {v : Value} {l : List Ln} (h : OLRow B w v l) : LRow w v l := by
  obtain ⟨a, cap, rfl, hl, hc⟩ := h
  refine ⟨a, cap, rfl, hl.1, fun h0 => ?_⟩
  obtain ⟨b, off, rfl, _, hbb, hcc⟩ := hc h0
  refine ⟨b, off, rfl, hbb, fun i x hx => ?_⟩
  obtain ⟨vc, h0, h1⟩ := hcc i x hx
  exact ⟨vc, h0.irow, h1⟩
theorem OLRow.cap {B : Nat} {w : World} {a : Option Addr} {n cap : Nat} {l : List Ln} (h : OLRow B w (.slice a n cap) l) : l.length ≤ cap := by
  obtain ⟨a', cap', he, hl, _⟩ := h
  cases he
  exact hl.2
theorem OLRow.below {B : Nat} {w w' : World} {v : Value} {l : List Ln} (h : OLRow B w v l) (hb : Below w.heap.size w w') : OLRow B w' v l := by
  obtain ⟨a, cap, rfl, hl, hc⟩ := h
  refine ⟨a, cap, rfl, hl, fun h0 => ?_⟩
  obtain ⟨b, off, rfl, hB, hbb, hcc⟩ := hc h0
  refine ⟨b, off, rfl, hB, Nat.lt_of_lt_of_le hbb hb.size, fun i x hx => ?_⟩
  obtain ⟨vc, h0, h1, h2, h3, h4⟩ := hcc i x hx
  exact ⟨vc, h0.below hb, (hb.cell (p := ⟨b, off + i * 4, none⟩) hbb).trans h1, (hb.cell (p := ⟨b, off + i * 4 + 1, none⟩) hbb).trans h2, (hb.cell (p := ⟨b, off + i * 4 + 2, none⟩) hbb).trans h3, (hb.cell (p := ⟨b, off + i * 4 + 3, none⟩) hbb).trans h4⟩
theorem OLRow.set {B g j : Nat} {u : Value} {w : World} {v : Value} {l : List Ln} (h : OLRow B w v l) (hg : g < B) : OLRow B (w.setCell ⟨g, j, none⟩ u) v l := by
  obtain ⟨a, cap, rfl, hl, hc⟩ := h
  refine ⟨a, cap, rfl, hl, fun h0 => ?_⟩
  obtain ⟨b, off, rfl, hB, hbb, hcc⟩ := hc h0
  have hne : b ≠ g := by omega
  have hk : ∀ o, (w.setCell ⟨g, j, none⟩ u).cell? ⟨b, o, none⟩ = w.cell? ⟨b, o, none⟩ := fun o => World.cell?_of_block (w := w) (a := ⟨b, o, none⟩) (heap_setCell_other _ _ _ _ hne)
  refine ⟨b, off, rfl, hB, by simpa [World.setCell] using hbb, fun i x hx => ?_⟩
  obtain ⟨vc, h0, h1, h2, h3, h4⟩ := hcc i x hx
  exact ⟨vc, own_set h0 hg, (hk _).trans h1, (hk _).trans h2, (hk _).trans h3, (hk _).trans h4⟩
theorem OLRow.mono {B B' : Nat} {w : World} {v : Value} {l : List Ln} (h : OLRow B w v l) (hb : B' ≤ B) : OLRow B' w v l := by
  obtain ⟨a, cap, rfl, hl, hc⟩ := h
  refine ⟨a, cap, rfl, hl, fun h0 => ?_⟩
  obtain ⟨b, off, rfl, hB, hbb, hcc⟩ := hc h0
  refine ⟨b, off, rfl, by omega, hbb, fun i x hx => ?_⟩
  obtain ⟨vc, h0, h1⟩ := hcc i x hx
  exact ⟨vc, own_mono h0 hb, h1⟩
theorem info_line : (Tryd.prog.info? 29).map (fun i => (i.zero, i.size, i.bytes)) = some (some (.agg #[.int .i64 0, .string ⟨#[]⟩, .string ⟨#[]⟩, .slice none 0 0]), 4, 64) := by kernel_rfl
def Elem (B : Nat) (w : World) (f : Nat → Value) (j : Nat) (x : Ln) : Prop :=
  f (j * 4) = .int .i64 x.kind ∧ f (j * 4 + 1) = .string x.name ∧ f (j * 4 + 2) = .string x.sum ∧ OIRow B w (f (j * 4 + 3)) x.cards
def RelU (l : List Ln) (w0 : World) (i : Value) (wr : World) : Prop :=
  ∃ (k : Nat) (f : Nat → Value), k ≤ l.length ∧ i = .int .i64 k ∧ wr.rowIs w0.heap.size 29 (l.length * 4) f ∧ (∀ j x, j < k → l[j]? = some x → Elem (w0.heap.size + 1) wr f j x) ∧ Below w0.heap.size w0 wr
theorem RelU.step {l : List Ln} {w0 wr w1 : World} {k : Nat} {f : Nat → Value} {x : Ln} {vd : Value} (hk : k < l.length) (hs : l[k]? = some x) (hrow : wr.rowIs w0.heap.size 29 (l.length * 4) f) (hf : ∀ j x, j < k → l[j]? = some x → Elem (w0.heap.size + 1) wr f j x)
    (hb : Below w0.heap.size w0 wr) (h1 : Below wr.heap.size wr w1) (ho : OIRow wr.heap.size w1 vd x.cards) :
    RelU l w0 (.int .i64 ((k : Int) + 1)) ((((w1.setCell ⟨w0.heap.size, k * 4, none⟩ (.int .i64 x.kind)).setCell ⟨w0.heap.size, k * 4 + 1, none⟩ (.string x.name)).setCell ⟨w0.heap.size, k * 4 + 2, none⟩ (.string x.sum)).setCell ⟨w0.heap.size, k * 4 + 3, none⟩ vd) := by
  have hlt := hrow.lt
  have hrow1 : w1.rowIs w0.heap.size 29 (l.length * 4) f := hrow.of_block (h1.block _ hlt)
  have keep : ∀ {v : Value} {cs : List Int}, OIRow (w0.heap.size + 1) w1 v cs → OIRow (w0.heap.size + 1) ((((w1.setCell ⟨w0.heap.size, k * 4, none⟩ (.int .i64 x.kind)).setCell ⟨w0.heap.size, k * 4 + 1, none⟩ (.string x.name)).setCell ⟨w0.heap.size, k * 4 + 2, none⟩ (.string x.sum)).setCell ⟨w0.heap.size, k * 4 + 3, none⟩ vd) v cs := fun h =>
    own_set (own_set (own_set (own_set h (Nat.lt_succ_self _)) (Nat.lt_succ_self _)) (Nat.lt_succ_self _)) (Nat.lt_succ_self _)
  refine ⟨k + 1, _, by omega, by simp, (((hrow1.set _ _).set _ _).set _ _).set _ _, fun j t hj ht => ?_, ((((hb.trans (h1.mono hb.size)).setCell (Nat.le_refl _) _).setCell (Nat.le_refl _) _).setCell (Nat.le_refl _) _).setCell (Nat.le_refl _) _⟩
  by_cases e : j = k
  · subst e
    rw [hs] at ht; cases ht
    refine ⟨?_, ?_, ?_, ?_⟩
    · show (if j * 4 = j * 4 + 3 then _ else if j * 4 = j * 4 + 2 then _ else if j * 4 = j * 4 + 1 then _ else if j * 4 = j * 4 then _ else f (j * 4)) = _
      rw [if_neg (by omega), if_neg (by omega), if_neg (by omega), if_pos rfl]
    · show (if j * 4 + 1 = j * 4 + 3 then _ else if j * 4 + 1 = j * 4 + 2 then _ else if j * 4 + 1 = j * 4 + 1 then _ else _) = _
      rw [if_neg (by omega), if_neg (by omega), if_pos rfl]
    · show (if j * 4 + 2 = j * 4 + 3 then _ else if j * 4 + 2 = j * 4 + 2 then _ else _) = _
      rw [if_neg (by omega), if_pos rfl]
    · show OIRow _ _ (if j * 4 + 3 = j * 4 + 3 then vd else _) _
      rw [if_pos rfl]
      exact keep (own_mono ho (by omega))
  · obtain ⟨e0, e1, e2, e3⟩ := hf j t (by omega) ht
    refine ⟨?_, ?_, ?_, ?_⟩
    · show (if j * 4 = k * 4 + 3 then _ else if j * 4 = k * 4 + 2 then _ else if j * 4 = k * 4 + 1 then _ else if j * 4 = k * 4 then _ else f (j * 4)) = _
      rw [if_neg (by omega), if_neg (by omega), if_neg (by omega), if_neg (by omega)]; exact e0
    · show (if j * 4 + 1 = k * 4 + 3 then _ else if j * 4 + 1 = k * 4 + 2 then _ else if j * 4 + 1 = k * 4 + 1 then _ else if j * 4 + 1 = k * 4 then _ else f (j * 4 + 1)) = _
      rw [if_neg (by omega), if_neg (by omega), if_neg (by omega), if_neg (by omega)]; exact e1
    · show (if j * 4 + 2 = k * 4 + 3 then _ else if j * 4 + 2 = k * 4 + 2 then _ else if j * 4 + 2 = k * 4 + 1 then _ else if j * 4 + 2 = k * 4 then _ else f (j * 4 + 2)) = _
      rw [if_neg (by omega), if_neg (by omega), if_neg (by omega), if_neg (by omega)]; exact e2
    · show OIRow _ _ (if j * 4 + 3 = k * 4 + 3 then vd else if j * 4 + 3 = k * 4 + 2 then _ else if j * 4 + 3 = k * 4 + 1 then _ else if j * 4 + 3 = k * 4 then _ else f (j * 4 + 3)) _
      rw [if_neg (by omega), if_neg (by omega), if_neg (by omega), if_neg (by omega)]
      exact keep (e3.below h1)
theorem lrow_of {l : List Ln} {w0 wr : World} {f : Nat → Value} (hrow : wr.rowIs w0.heap.size 29 (l.length * 4) f) (hf : ∀ j x, l[j]? = some x → Elem (w0.heap.size + 1) wr f j x) (hm : l.length ≤ maxLen) :
    OLRow w0.heap.size wr (.slice (some ⟨w0.heap.size, 0, none⟩) l.length l.length) l := by
  refine ⟨_, _, rfl, ⟨hm, Nat.le_refl _⟩, fun _ => ⟨_, 0, rfl, Nat.le_refl _, hrow.lt, fun i x hx => ?_⟩⟩
  have hi : i < l.length := (List.getElem?_eq_some_iff.1 hx).1
  obtain ⟨e0, e1, e2, e3⟩ := hf i x hx
  refine ⟨f (i * 4 + 3), own_mono e3 (by omega), ?_, ?_, ?_, ?_⟩
  · rw [Nat.zero_add, hrow.cell (by omega), e0]
  · rw [Nat.zero_add, hrow.cell (by omega), e1]
  · rw [Nat.zero_add, hrow.cell (by omega), e2]
  · rw [Nat.zero_add, hrow.cell (by omega)]
set_option maxRecDepth 100000 in
set_option maxHeartbeats 3200000 in
theorem toLines_any (v : Value) (l : List Ln) (w : World) (hv : LRow w v l) (hz : l.length ≤ 1048576) (hcz : ∀ x ∈ l, x.cards.length ≤ 1048576) :
    Calls Tryd.prog 65 #[v] w fun e w' => ∃ a cap, e = .returned (.slice a l.length cap) ∧ OLRow w.heap.size w' (.slice a l.length cap) l ∧ Below w.heap.size w w' := by
  obtain ⟨a, cap, rfl, hl, hc⟩ := hv
  have hmk := run_make_row4 (P := Tryd.prog) 23 29 (.agg #[.int .i64 0, .string ⟨#[]⟩, .string ⟨#[]⟩, .slice none 0 0]) 64 Tryd.underlying23 info_line .i64 .i64 l.length (by omega) (by omega)
  obtain ⟨M, hM⟩ : ∃ M, madeCells (Value.agg #[.int .i64 0, .string ⟨#[]⟩, .string ⟨#[]⟩, .slice none 0 0]).cells (l.length * 4) = M := ⟨_, rfl⟩
  have hMs : M.size = l.length * 4 := by rw [← hM, size_madeCells]
  rw [hM] at hmk
  clear hM
  have hrow0 : (w.alloc (.cells M 29)).rowIs w.heap.size 29 (l.length * 4) (fun i => M.getD i (.int .i64 0)) :=
    ⟨_, Go.Deep.blk_alloc_new _ _, hMs, fun i hi => by simp [hMs, hi]⟩
  have H0 : Hid (RelU l w (.int .i64 0) (w.alloc (.cells M 29))) := ⟨0, _, Nat.zero_le _, rfl, hrow0, fun j s h => by omega, (Below.refl _ _).alloc (Nat.le_refl _) _⟩
  clear hrow0 hMs
  go_enter Tryd.func65, Tryd.ntmps65
  go_wp2
  clear hmk
  go_loopw [4] (fun i wr => RelU l w i wr) (fun i _ => l.length - (intOf i).toNat)
  case atStart => exact H0.out
  case round =>
    clear H0
    obtain ⟨k, f, hk, rfl, hrow, hf, hbel⟩ := hrel
    by_cases hlt : k < l.length
    · obtain ⟨b, off, rfl, hbb, hcc⟩ := hc (by omega)
      obtain ⟨vc, hi, c0, c1, c2, c3⟩ := hcc k _ (lAt_get hlt)
      rw [← hbel.cell (p := ⟨b, off + k * 4, none⟩) hbb] at c0
      rw [← hbel.cell (p := ⟨b, off + k * 4 + 1, none⟩) hbb] at c1
      rw [← hbel.cell (p := ⟨b, off + k * 4 + 2, none⟩) hbb] at c2
      rw [← hbel.cell (p := ⟨b, off + k * 4 + 3, none⟩) hbb] at c3
      have hlt' : (k : Int) < (l.length : Int) := by omega
      have HT : Hid (Calls Tryd.prog 29 #[lnV (lAt l k) vc] wr fun e w' => ∃ vd, e = .returned (lnV (lAt l k) vd) ∧ OIRow wr.heap.size w' vd (lAt l k).cards ∧ Below wr.heap.size wr w') := toLine_any _ vc wr (hi.below hbel) (hcz _ (List.mem_of_getElem? (lAt_get hlt)))
      have HN : Hid (∀ w1 vd, Below wr.heap.size wr w1 → OIRow wr.heap.size w1 vd (lAt l k).cards → RelU l w (.int .i64 ((k : Int) + 1)) ((((w1.setCell ⟨w.heap.size, k * 4, none⟩ (.int .i64 (lAt l k).kind)).setCell ⟨w.heap.size, k * 4 + 1, none⟩ (.string (lAt l k).name)).setCell ⟨w.heap.size, k * 4 + 2, none⟩ (.string (lAt l k).sum)).setCell ⟨w.heap.size, k * 4 + 3, none⟩ vd)) := fun w1 vd h1 ho => RelU.step hlt (lAt_get hlt) hrow hf hbel h1 ho
      have HO : Hid (∀ w1, Below wr.heap.size wr w1 → (∃ o, w1.cell? ⟨w.heap.size, k * 4, none⟩ = some o) ∧ (∃ o, w1.cell? ⟨w.heap.size, k * 4 + 1, none⟩ = some o) ∧ (∃ o, w1.cell? ⟨w.heap.size, k * 4 + 2, none⟩ = some o) ∧ (∃ o, w1.cell? ⟨w.heap.size, k * 4 + 3, none⟩ = some o) ∧ (∀ o, w1.frozen? ⟨w.heap.size, o, none⟩ = false)) := fun w1 h1 => by
        have hr1 := hrow.of_block (h1.block _ hrow.lt)
        exact ⟨⟨_, hr1.cell (by omega)⟩, ⟨_, hr1.cell (by omega)⟩, ⟨_, hr1.cell (by omega)⟩, ⟨_, hr1.cell (by omega)⟩, fun o => hr1.frozen o⟩
      clear hcc hi hrow hf hbel hc hcz
      unfold lnV at HT
      generalize lAt l k = x at *
      go_wp2_with fail
      refine HT.out.mono ?_
      rintro e w1 ⟨vd, rfl, ho, hb1⟩
      have HF : Hid _ := HN.out w1 vd hb1 ho
      obtain ⟨⟨o0, ho0⟩, ⟨o1, ho1⟩, ⟨o2, ho2⟩, ⟨o3, ho3⟩, hfr⟩ := HO.out w1 hb1
      obtain ⟨a2, cap2, rfl, _, _⟩ := ho.irow
      clear HN HO HT hb1 ho
      go_wp2_with fail
      go_roundw
      case rel => exact HF.out
      case measure => simp [intOf]; omega
    · have hkl : k = l.length := by omega
      have HF : Hid (OLRow w.heap.size wr (.slice (some ⟨w.heap.size, 0, none⟩) l.length l.length) l) := lrow_of hrow (fun j x hx => hf j x (by rw [hkl]; exact (List.getElem?_eq_some_iff.1 hx).1) hx) (by unfold maxLen; omega)
      have HB : Hid (Below w.heap.size w wr) := hbel
      clear hrow hf hbel hkl hc hcz
      go_wp2
      go_ret
      exact ⟨_, _, rfl, HF.out, HB.out⟩
end Go.Proofs.YtkpjdmmgdmbmnaaDoor.AA
