/-
  A drawn disk: its last part, disks that are none of those that Right takes.
-/
import Derived.Test.YtoihhjdllcockaaD8
namespace Go.Proofs.Ytoihhjdllcockaa.E0
open Go.RowKit
open Go.Proofs.Ytoihhjdllcockaa.C0 Go.Proofs.Ytoihhjdllcockaa.D6 Go.Proofs.Ytoihhjdllcockaa.D7 Go.Proofs.Ytoihhjdllcockaa.D8 Go.Proofs.Ytoihhjdllcockaa.S0 Go.Proofs.Ytoihhjdllcockaa.S1 Go.Proofs.Ytoihhjdllcockaa.S2 Go.Proofs.Ytoihhjdllcockaa.S4 Go.Proofs.Ytoihhjdllcockaa.O1 Go.Proofs.Ytoihhjdllcockaa.T2 Go.Proofs.Ytoihhjdllcockaa.T3 Go.Proofs.Ytoihhjdllcockaa.T4 Go.Proofs.Ytoihhjdllcockaa.T5
open Go.Proofs.Ytoihhjdllcockaa.Dk (Out rightB right_iff)
def zer (r : Nat) : Obj := .cells (Array.replicate (64 + r) (.int .u8 0)) 5
def zt (r : Nat) : ByteArray := ⟨Array.replicate (64 + r) 0⟩
theorem madeZ (r : Nat) (h : (r : Int) < 2) (w : World) : (Instr.makeSlice 22 (.int .i64 (64 + (r : Int))) (.int .i64 (64 + (r : Int)))).run Try.prog w = .ok (.slice (some ⟨w.heap.size, 0, none⟩) (64 + r) (64 + r)) (w.alloc (zer r)) := by
  obtain rfl | rfl : r = 0 ∨ r = 1 := by omega
  · kernel_rfl
  · kernel_rfl
theorem convZ (r : Nat) (w : World) : (convert 22 9 (.slice (some ⟨w.heap.size, 0, none⟩) (64 + r) (64 + r))).run Try.prog (w.alloc (zer r)) = .ok (.string (zt r)) (w.alloc (zer r)) := by
  have := run_convert_bytes_back (w.alloc (zer r)) 22 9 5 ⟨w.heap.size, 0, none⟩ (64 + r) (List.replicate (64 + r) 0) Try.underlying22 Try.underlying5 Try.underlying9 ?_
  · simpa [zt] using this
  · intro j hj
    simp only [List.length_replicate] at hj
    have hn : (w.alloc (zer r)).heap[w.heap.size]? = some (.cells (Array.replicate (64 + r) (.int .u8 0)) 5) := heap_alloc_new w _
    generalize w.alloc (zer r) = x at hn ⊢
    rw [add0]
    simp [World.cell?, hn, hj]
theorem wrap64 (r : Nat) (h : (r : Int) < 2) : IntKind.i64.wrap (64 + (r : Int)) = 64 + (r : Int) := by
  obtain rfl | rfl : r = 0 ∨ r = 1 := by omega
  · decide
  · decide
theorem wrap199 (r : Nat) (h : (r : Int) < 3) : IntKind.i64.wrap (199 + (r : Int)) = 199 + (r : Int) := by
  obtain rfl | rfl | rfl : r = 0 ∨ r = 1 ∨ r = 2 := by omega
  · decide
  · decide
  · decide
/-- How many are pending, as the variable says. -/
def lenAt (w : World) (L : Nat) : Nat := match w.cell? ⟨L, 1, none⟩ with | some (.slice _ n _) => n | _ => 0
theorem lenAt_of {w : World} {L n c : Nat} {a : Option Addr} (h : w.cell? ⟨L, 1, none⟩ = some (.slice a n c)) : lenAt w L = n := by unfold lenAt; rw [h]
theorem zt_size (r : Nat) : (zt r).size = 64 + r := by simp [zt, ByteArray.size]
section
variable {B p n L c c' : Nat} {v : Value} {w0 wr w' : World} {ss : List ByteArray} {ps : List Pend} {a a' : Option Addr}
theorem next_round (k : Nat) (h0 : 0 < k) (hk : k ≤ 9) (hR : rightB ss ps = true) (h : DS B p n v w0 L ss ps a c a' c' wr) : RelD B p n v w0 L (.int .i64 ((k : Int) - 1)) wr := by
  have e : (k : Int) - 1 = ((k - 1 : Nat) : Int) := by omega
  rw [e]
  exact RelD.same (k - 1) (by omega) hR h
/-- A drawn disk's bounds. -/
structure FD (B p n : Nat) (v : Value) (w0 : World) (L : Nat) (ss : List ByteArray) (ps : List Pend) (a : Option Addr) (c : Nat) (a' : Option Addr) (c' : Nat) (wr : World) : Prop where
  ds : DS B p n v w0 L ss ps a c a' c' wr
  l1 : ss.length ≤ 64
  l2 : ps.length ≤ 201
  z1 : ∀ s ∈ ss, s.size ≤ maxLen
  z2 : ∀ q ∈ ps, q.2.size ≤ maxLen
def RF (B p n : Nat) (v : Value) (w0 : World) (L : Nat) (wr : World) : Prop :=
  ∃ (ss : List ByteArray) (ps : List Pend) (a : Option Addr) (c : Nat) (a' : Option Addr) (c' : Nat), FD B p n v w0 L ss ps a c a' c' wr
theorem FD.of (h : DS B p n v w0 L ss ps a c a' c' wr) (hR : rightB ss ps = true) : FD B p n v w0 L ss ps a c a' c' wr :=
  ⟨h, ((right_iff ss ps).1 hR).2.1, by have := ((right_iff ss ps).1 hR).2.2.1; omega, (small_sizes hR).1, (small_sizes hR).2⟩
theorem FD.rf (h : FD B p n v w0 L ss ps a c a' c' wr) : RF B p n v w0 L wr := ⟨ss, ps, a, c, a', c', h⟩
theorem FD.drawn (h : FD B p n v w0 L ss ps a c a' c' wr) (hd : Dr B p n v w') (ht : Wrote (only p) wr w') : FD B p n v w0 L ss ps a c a' c' w' := ⟨h.ds.drawn hd ht, h.l1, h.l2, h.z1, h.z2⟩
theorem FD.below (h : FD B p n v w0 L ss ps a c a' c' wr) (hb : Below wr.heap.size wr w') : FD B p n v w0 L ss ps a c a' c' w' := ⟨h.ds.below hb, h.l1, h.l2, h.z1, h.z2⟩
theorem FD.drew (h : FD B p n v w0 L ss ps a c a' c' wr) : FD B p n v w0 L ss ps a c a' c' wr.drew := ⟨h.ds.drew, h.l1, h.l2, h.z1, h.z2⟩
theorem fN (most : Int) (h : FD B p n v w0 L ss ps a c a' c' wr) (l : 0 < most) (u : most ≤ 9223372036854775807) :
    Calls Try.prog 37 #[.pointer (some ⟨p, 0, none⟩), .int .i64 most] wr fun e w' => ∃ r : Nat, e = .returned (.int .i64 r) ∧ (r : Int) < most ∧ FD B p n v w0 L ss ps a c a' c' w' :=
  (drawN most h.ds.dr l u).mono (fun _ _ ⟨r, he, hr, hd, ht⟩ => ⟨r, he, hr, h.drawn hd ht⟩)
/-- Writing into blocks that are neither the source's, the result's nor older. -/
theorem wrote_on {S : Nat → Prop} (h : DS B p n v w0 L ss ps a c a' c' wr) (ht : Wrote S wr w') (hS : ∀ g, S g → w0.heap.size < g) : w'.heap[w0.heap.size]? = some (.cells #[.slice none 0 0, .slice none 0 0] 26) ∧ Dr B p n v w' ∧ Wrote (only p) w0 w' := by
  have hplt := h.plt
  exact ⟨carryW h.res ht (fun e => by have := hS _ e; omega), h.dr.wrote ht (fun g e => by have := hS g e; omega), ⟨ht.os.trans h.wr.os, ht.tape.trans h.wr.tape, ht.output.trans h.wr.output, Nat.le_trans h.wr.size ht.size, fun k hk hs => (ht.block k (Nat.lt_of_lt_of_le hk h.wr.size) (fun e => by have := hS k e; omega)).trans (h.wr.block k hk hs)⟩⟩
theorem set1_wrote (w : World) (g i : Nat) (u : Value) : Wrote (fun k => k = g) w (w.setCell ⟨g, i, none⟩ u) := (Wrote.refl (fun k => k = g) w).setCell (p := ⟨g, i, none⟩) (.inr rfl) u
/-- Its sectors are struck. -/
theorem FD.strike (h : FD B p n v w0 L ss ps a c a' c' wr) : FD B p n v w0 L [] ps none 0 a' c' (wr.setCell ⟨L, 0, none⟩ (.slice none 0 0)) := by
  have ht := set1_wrote wr L 0 (.slice none 0 0)
  obtain ⟨x1, x2, x3⟩ := wrote_on h.ds ht (fun g e => by have := h.ds.lt; omega)
  refine ⟨⟨?_, ⟨World.ownsRow_nil _ _ _ _, own_keep h.ds.own.2 fun g hg => ht.block g (h.ds.own.rows g (.inr hg)).2 (row_ne h.ds.own h.ds.loc (by decide) (by decide) g (.inr hg))⟩, x1, x2, x3, h.ds.lt, h.ds.plt⟩, by simp, h.l2, by simp, h.z2⟩
  have := heap_setCell_same wr L 0 _ _ (.slice none 0 0) h.ds.loc
  simpa using this
theorem FD.at {X : World} (h : FD B p n v w0 L ss ps a c a' c' wr) (al : Below wr.heap.size wr X) (hg : X.grownBy w' (Value.slice a' ps.length c').ownBlock) : w'.heap[L]? = some (.cells #[.slice a ss.length c, .slice a' ps.length c'] 26) :=
  (hg.block L (by have := lt_some h.ds.loc; have := al.size; omega) (fun e => row_ne h.ds.own h.ds.loc (by decide) (by decide) L (.inr e.symm) rfl)).trans (carry h.ds.loc al)
/-- One more is pending. -/
theorem FD.more {X : World} {g cap : Nat} {i : Int} {d : ByteArray} (h : FD B p n v w0 L ss ps a c a' c' wr) (al : Below wr.heap.size wr X)
    (hown : w'.ownsRow w0.heap.size 46 2 (.slice (some ⟨g, 0, none⟩) (ps.length + 1) cap) (ps.length + 1) (cp ps ++ [.int .i64 i, .string d])) (hg : X.grownBy w' (Value.slice a' ps.length c').ownBlock)
    (hat : (Value.slice a' ps.length c').ownBlock = some g ∨ g = X.heap.size) (hl : ps.length < 201) (hd : d.size ≤ maxLen) :
    FD B p n v w0 L ss (ps ++ [(i, d)]) a c (some ⟨g, 0, none⟩) cap (w'.setCell ⟨L, 1, none⟩ (.slice (some ⟨g, 0, none⟩) (ps.length + 1) cap)) := by
  have hll : (ps ++ [(i, d)]).length = ps.length + 1 := by simp
  have RFs := h.ds.own.rows
  have hLz := lt_some h.ds.loc
  have hls := h.ds.lt
  have hxs := al.size
  have hLn : (Value.slice a' ps.length c').ownBlock ≠ some L := fun e => row_ne h.ds.own h.ds.loc (by decide) (by decide) L (.inr e) rfl
  have hgL : g ≠ L := by
    rcases hat with e | e
    · exact fun q => hLn (q ▸ e)
    · omega
  have kL : w'.heap[L]? = some (.cells #[.slice a ss.length c, .slice a' ps.length c'] 26) := (hg.block L (by omega) (fun e => hLn e.symm)).trans (carry h.ds.loc al)
  have hS3 := h.ds.own.1.below al
  have hS4 : OStrs w0.heap.size w' (.slice a ss.length c) ss := own_keep hS3 fun k hk => hg.block k (hS3.lt k hk).2 (fun e => own_apart h.ds.own.1 h.ds.own.2 k hk e.symm)
  have hP4 : OPends w0.heap.size w' (.slice (some ⟨g, 0, none⟩) (ps.length + 1) cap) (ps ++ [(i, d)]) := by unfold OPends; rw [hll, TA.cp_snoc]; exact hown
  have hne : w0.heap.size ≠ L := by omega
  have ht1 : Wrote (fun k => (Value.slice a' ps.length c').ownBlock = some k) X w' := Wrote.of_grown hg (fun k e => e)
  have ht2 : Wrote (fun k => k = L ∨ (Value.slice a' ps.length c').ownBlock = some k) wr (w'.setCell ⟨L, 1, none⟩ (.slice (some ⟨g, 0, none⟩) (ps.length + 1) cap)) :=
    ((Wrote.of_below al).trans (ht1.mono (fun k e => .inr e))).setCell (p := ⟨L, 1, none⟩) (.inr (.inl rfl)) _
  have hres : ∀ k, (k = L ∨ (Value.slice a' ps.length c').ownBlock = some k) → w0.heap.size < k := by
    intro k hk
    rcases hk with rfl | e
    · exact hls
    · have h1 := (RFs k (.inr e)).1
      have h2 : k ≠ w0.heap.size := row_ne h.ds.own h.ds.res (by decide) (by decide) k (.inr e)
      omega
  obtain ⟨x1, x2, x3⟩ := wrote_on h.ds ht2 hres
  refine ⟨⟨?_, ⟨?_, ?_⟩, x1, x2, x3, hls, h.ds.plt⟩, h.l1, by omega, h.z1, fun q hq => ?_⟩
  · have := heap_setCell_same w' L 1 _ _ (.slice (some ⟨g, 0, none⟩) (ps.length + 1) cap) kL
    rw [hll]
    simpa using this
  · exact own_keep hS4 fun k hk => Below.heap_setCell _ _ _ _ (row_ne h.ds.own h.ds.loc (by decide) (by decide) k (.inl hk))
  · rw [hll]
    exact own_keep hP4 fun k hk => Below.heap_setCell _ _ _ _ (by simp [Value.ownBlock] at hk; subst hk; exact hgL)
  · rcases List.mem_append.1 hq with hq | hq
    · exact h.z2 q hq
    · simp at hq; subst hq; exact hd
/-- Its first sector is another. -/
theorem FD.other {g : Nat} (t : ByteArray) (h : FD B p n v w0 L ss ps (some ⟨g, 0, none⟩) c a' c' wr) (ht : t.size ≤ maxLen) : FD B p n v w0 L (ss.set 0 t) ps (some ⟨g, 0, none⟩) c a' c' (wr.setCell ⟨g, 0, none⟩ (.string t)) := by
  have hw := set1_wrote wr g 0 (.string t)
  have hgL : g ≠ L := row_ne h.ds.own h.ds.loc (by decide) (by decide) g (.inl rfl)
  have hgR : g ≠ w0.heap.size := row_ne h.ds.own h.ds.res (by decide) (by decide) g (.inl rfl)
  have hgz := (h.ds.own.rows g (.inl rfl)).1
  obtain ⟨x1, x2, x3⟩ := wrote_on h.ds hw (fun k e => by omega)
  refine ⟨⟨?_, ⟨?_, own_keep h.ds.own.2 fun k hk => Below.heap_setCell _ _ _ _ (fun e => own_apart h.ds.own.1 h.ds.own.2 g rfl (by rw [← (show k = g from e)]; exact hk))⟩, x1, x2, x3, h.ds.lt, h.ds.plt⟩, by simpa using h.l1, h.l2, fun s hs => ?_, h.z2⟩
  · rw [List.length_set]; exact (Below.heap_setCell _ _ _ _ (fun e => hgL e.symm)).trans h.ds.loc
  · rw [List.length_set]; exact stored_strs h.ds.own.1 rfl 0 t
  · rcases List.mem_or_eq_of_mem_set hs with hs | rfl
    · exact h.z1 s hs
    · exact ht
theorem keepO {g : Nat} (o : Obj) (t : ByteArray) (h : FD B p n v w0 L ss ps (some ⟨g, 0, none⟩) c a' c' wr) : ((wr.alloc o).setCell ⟨g, 0, none⟩ (.string t)).cell? ⟨L, 0, none⟩ = some (.slice (some ⟨g, 0, none⟩) ss.length c) ∧ ((wr.alloc o).setCell ⟨g, 0, none⟩ (.string t)).cell? ⟨L, 1, none⟩ = some (.slice a' ps.length c') := by
  have hgL : g ≠ L := row_ne h.ds.own h.ds.loc (by decide) (by decide) g (.inl rfl)
  have k : ((wr.alloc o).setCell ⟨g, 0, none⟩ (.string t)).heap[L]? = some (.cells #[.slice (some ⟨g, 0, none⟩) ss.length c, .slice a' ps.length c'] 26) := (Below.heap_setCell _ _ _ _ (fun e => hgL e.symm)).trans (carryA h.ds.loc o)
  exact ⟨(blk2 k).1, (blk2 k).2.1⟩
/-- What the drawn disk is told to be. -/
def Drawn (B p n : Nat) (v : Value) (w : World) (e : Ending) (w' : World) : Prop :=
  ∃ (ss : List ByteArray) (ps : List Pend) (a : Option Addr) (c : Nat) (a' : Option Addr) (c' : Nat), e = .returned (.agg #[.slice a ss.length c, .slice a' ps.length c']) ∧ ODisk w.heap.size w' (.slice a ss.length c) (.slice a' ps.length c') ss ps ∧ ss.length ≤ 64 ∧ ps.length ≤ 201 ∧ (∀ s ∈ ss, s.size ≤ maxLen) ∧ (∀ q ∈ ps, q.2.size ≤ maxLen) ∧ Dr B p n v w' ∧ Wrote (only p) w w'
theorem FD.told (h : FD B p n v w0 L ss ps a c a' c' wr) : Drawn B p n v w0 (.returned (.agg #[.slice a ss.length c, .slice a' ps.length c'])) ((wr.setCell ⟨w0.heap.size, 0, none⟩ (.slice a ss.length c)).setCell ⟨w0.heap.size, 1, none⟩ (.slice a' ps.length c')) := by
  have ht := set2_wrote wr w0.heap.size (.slice a ss.length c) (.slice a' ps.length c')
  have hplt := h.ds.plt
  refine ⟨ss, ps, a, c, a', c', rfl, keep_blocks h.ds.own fun g hg => ht.block g (h.ds.own.rows g hg).2 (row_ne h.ds.own h.ds.res (by decide) (by decide) g hg), h.l1, h.l2, h.z1, h.z2, h.ds.dr.wrote ht (fun g e => by omega), ⟨ht.os.trans h.ds.wr.os, ht.tape.trans h.ds.wr.tape, ht.output.trans h.ds.wr.output, Nat.le_trans h.ds.wr.size ht.size, fun k hk hs => (ht.block k (Nat.lt_of_lt_of_le hk h.ds.wr.size) (by omega)).trans (h.ds.wr.block k hk hs)⟩⟩
end
end Go.Proofs.Ytoihhjdllcockaa.E0
