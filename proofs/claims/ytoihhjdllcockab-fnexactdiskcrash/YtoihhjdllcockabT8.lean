/-
  The program's disk at work: a sector read, a place flushed, the disk told again.
-/
import Derived.Test.YtoihhjdllcockabT7
import Derived.Test.YtoihhjdllcockabS4
import Derived.Test.YtoihhjdllcockabM9
namespace Go.Proofs.Ytoihhjdllcockab.T8
open Go.RowKit
open Go.Proofs.Ytoihhjdllcockab.C0 Go.Proofs.Ytoihhjdllcockab.S0 Go.Proofs.Ytoihhjdllcockab.S1 Go.Proofs.Ytoihhjdllcockab.S2 Go.Proofs.Ytoihhjdllcockab.S3 Go.Proofs.Ytoihhjdllcockab.S4 Go.Proofs.Ytoihhjdllcockab.O1 Go.Proofs.Ytoihhjdllcockab.T2 Go.Proofs.Ytoihhjdllcockab.T3 Go.Proofs.Ytoihhjdllcockab.T6 Go.Proofs.Ytoihhjdllcockab.T7
open Go.Proofs.Ytoihhjdllcockab.Dk (readOf readOf_none readOf_found putOne)
theorem MapIs.ne_cells {w : World} {b n g : Nat} {f : Nat → Option Pend} {cs : Array Value} {T : TypeId} {fr : Nat × Nat} (h : MapIs w b n f) (hg : w.heap[g]? = some (.cells cs T fr)) : g ≠ b := by
  obtain ⟨D, ⟨es, cl, h1, _⟩, _⟩ := h
  intro e
  subst e
  rw [hg] at h1; cases h1
theorem ne_row {B : Nat} {w : World} {b n : Nat} {f : Nat → Option Pend} {v : Value} {l : List ByteArray} (h : MapIs w b n f) (ho : OStrs B w v l) : v.ownBlock ≠ some b := by
  intro e
  rcases ho.2 with ⟨h1, _⟩ | ⟨g', cap, cur, h1, _, hg', _⟩
  · rw [h1] at e; simp [Value.ownBlock] at e
  · rw [h1] at e; simp [Value.ownBlock] at e; subst e; exact MapIs.ne_cells h hg' rfl
set_option maxRecDepth 100000 in
set_option maxHeartbeats 1600000 in
theorem flush_any (B : Nat) (a : Option Addr) (c m n k : Nat) (f : Nat → Option Pend) (ss : List ByteArray) (p : Pend) (x : Value) (w : World) (hs : OStrs B w (.slice a ss.length c) ss) (hm : MapIs w m n f) (hf : f k = some p) (hk : k < 1000) (hp0 : 0 ≤ p.1) (hp1 : p.1 < ss.length) (hz : ss.length ≤ 64) :
    Calls Try.prog 23 #[.agg #[.slice a ss.length c, .map (some m), x], .int .i64 k] w fun e w' => e = .returned (.tuple #[]) ∧ OStrs B w' (.slice a ss.length c) (putOne ss p) ∧ MapIs w' m n (upd f k none) ∧ Wrote (fun g => g = m ∨ mine (.slice a ss.length c) g) w w' := by
  obtain ⟨g, rfl, -, hBg, hgz⟩ := form_strs hs (by omega)
  obtain ⟨z, d⟩ := p
  dsimp only at hp0 hp1
  obtain ⟨q, rfl⟩ : ∃ q : Nat, z = q := ⟨z.toNat, by omega⟩
  have hq : (q : Int) < (ss.length : Int) := hp1
  have hne := ne_row hm hs
  have hgm : g ≠ m := fun e => hne (by rw [e]; rfl)
  obtain ⟨⟨o, ho⟩, hfo⟩ := own_cell_s hs q (by omega)
  have hr := (hm.alloc (.cells #[.slice (some ⟨g, 0, none⟩) ss.length c, .map (some m), x] 49)).look k hk _ hf
  have al := bel2 (albel (w.setCell ⟨g, q, none⟩ (.string d)) (.cells #[.slice (some ⟨g, 0, none⟩) ss.length c, .map (some m), x] 49)) (albel _ (.cells #[.int .i64 q, .string d] 44))
  obtain ⟨w2, hdel, hm2, hg2⟩ := ((hm.setCell (a := ⟨g, q, none⟩) (fun e => hgm e.symm) (.string d)).below al).drop k hk 0
  have HS : Hid (OStrs B w2 (.slice (some ⟨g, 0, none⟩) ss.length c) (putOne ss (q, d))) := by
    have h1 := (stored_strs hs rfl q d).below al
    exact own_keep h1 fun g' hg' => hg2.block g' (h1.lt g' hg').2 (fun e => hgm (by simp [Value.ownBlock] at hg'; rw [hg']; simpa using e))
  have HW : Hid (Wrote (fun g' => g' = m ∨ mine (.slice (some ⟨g, 0, none⟩) ss.length c) g') w w2) :=
    (((Wrote.refl _ w).setCell (p := ⟨g, q, none⟩) (.inr (.inr rfl)) (.string d)).trans (Wrote.of_below al)).trans (Wrote.of_grown hg2 (fun k' e => .inl (by simpa using e.symm)))
  have HM : Hid (MapIs w2 m n (upd f k none)) := hm2
  clear al hm hs hne hf hm2 hg2
  go_enter Try.func23, Try.ntmps23
  go_wp2
  go_end0
  exact ⟨rfl, HS.out, HM.out, HW.out⟩
def RelE (N : Nat) (W : World) (x : Value) (wr : World) : Prop := ∃ k : Nat, k ≤ N ∧ x = .int .i64 k ∧ Below W.heap.size W wr
theorem k_box3 (w : World) (x y z : Obj) : (((w.alloc x).alloc y).alloc z).heap[w.heap.size]? = some x ∧ (((w.alloc x).alloc y).alloc z).heap[w.heap.size + 1]? = some y ∧ (((w.alloc x).alloc y).alloc z).heap[w.heap.size + 1 + 1]? = some z ∧ Below w.heap.size w (((w.alloc x).alloc y).alloc z) :=
  ⟨carryA (k_box w x y).1 z, carryA (k_box w x y).2.1 z, alloc_at (by simp), balloc (k_box w x y).2.2.1 z⟩
set_option maxRecDepth 100000 in
set_option maxHeartbeats 1600000 in
theorem disk_any (a : Option Addr) (l c m n N : Nat) (f : Nat → Option Pend) (w : World) (hm : MapIs w m n f) (hf : ∀ i, i < N → f i = none) (hN : N ≤ 200) :
    Calls Try.prog 24 #[.agg #[.slice a l c, .map (some m), .int .i64 (N : Nat)]] w fun e w' => e = .returned (.agg #[.slice a l c, .slice none 0 0]) ∧ Below w.heap.size w w' := by
  obtain ⟨k0, k1, k2, b0⟩ := k_box3 w (.cells #[.slice a l c, .map (some m), .int .i64 (N : Nat)] 49) (.cells #[.slice none 0 0, .slice none 0 0] 30) (.cells #[.slice a l c, .slice none 0 0] 30)
  go_enter Try.func24, Try.ntmps24
  go_wp2
  obtain ⟨W, hW⟩ : ∃ W, ((w.alloc (.cells #[.slice a l c, .map (some m), .int .i64 (N : Nat)] 49)).alloc (.cells #[.slice none 0 0, .slice none 0 0] 30)).alloc (.cells #[.slice a l c, .slice none 0 0] 30) = W := ⟨_, rfl⟩
  rw [hW] at k0 k1 k2 b0 ⊢
  clear hW
  have H0 : Hid (RelE N W (.int .i64 0) W) := ⟨0, Nat.zero_le _, rfl, Below.refl _ _⟩
  go_loopw [12] (fun x wr => RelE N W x wr) (fun x _ => N - (intOf x).toNat)
  case atStart => exact H0.out
  case round =>
    clear H0
    obtain ⟨k, hk, rfl, hB⟩ := hrel
    obtain ⟨l0, l1, l2, lf, l9⟩ := blk3 (carry k0 hB)
    obtain ⟨s0, s1, sf, s9⟩ := blk2 (carry k1 hB)
    obtain ⟨t0, t1, tf, t9⟩ := blk2 (carry k2 hB)
    have B1 := bel2 b0 hB
    have HB : Hid (Below W.heap.size W wr) := hB
    have HB1 : Hid (Below w.heap.size w wr) := B1
    by_cases hlt : k < N
    · have hlt' : (k : Int) < (N : Int) := by omega
      have hr := (hm.below B1).look_no k (by omega) (hf k hlt)
      clear hB B1
      go_wp2
      go_roundw
      case rel => exact ⟨k + 1, by omega, by go_num, balloc HB.out _⟩
      case measure => simp [intOf]; omega
    · clear hB B1
      go_wp2
      exact bodyPost_ret (v := .agg #[.slice a l c, .slice none 0 0]) (by simp [results, Try.results24, go_sem, s0, s1]) rfl ⟨rfl, (HB1.out.setCell (p := ⟨w.heap.size + 1, 0, none⟩) (by show w.heap.size ≤ w.heap.size + 1; omega) _).setCell (p := ⟨w.heap.size + 1, 1, none⟩) (by show w.heap.size ≤ w.heap.size + 1; omega) _⟩
end Go.Proofs.Ytoihhjdllcockab.T8
