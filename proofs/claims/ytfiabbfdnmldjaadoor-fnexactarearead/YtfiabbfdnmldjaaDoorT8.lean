/-
  The program's disk at work: a sector read, a place flushed, the disk told again.
-/
import Derived.Test.YtfiabbfdnmldjaaDoorT7
import Derived.Test.YtfiabbfdnmldjaaDoorS4
import Derived.Test.YtfiabbfdnmldjaaDoorM9
namespace Go.Proofs.YtfiabbfdnmldjaaDoor.T8
open Go.RowKit
open Go.Proofs.YtfiabbfdnmldjaaDoor.C0 Go.Proofs.YtfiabbfdnmldjaaDoor.S0 Go.Proofs.YtfiabbfdnmldjaaDoor.S1 Go.Proofs.YtfiabbfdnmldjaaDoor.S2 Go.Proofs.YtfiabbfdnmldjaaDoor.S3 Go.Proofs.YtfiabbfdnmldjaaDoor.S4 Go.Proofs.YtfiabbfdnmldjaaDoor.O1 Go.Proofs.YtfiabbfdnmldjaaDoor.T2 Go.Proofs.YtfiabbfdnmldjaaDoor.T3 Go.Proofs.YtfiabbfdnmldjaaDoor.T6 Go.Proofs.YtfiabbfdnmldjaaDoor.T7
open Go.Proofs.YtfiabbfdnmldjaaDoor.Dk (readOf readOf_none readOf_found putOne)
def RelG (ps : List Pend) (i : Int) (W : World) (x : Value) (wr : World) : Prop := ∃ k : Nat, k ≤ ps.length ∧ x = .int .i64 ((k : Int) - 1) ∧ (∀ q ∈ ps.drop k, q.1 ≠ i) ∧ Below W.heap.size W wr
theorem drop_step {ps : List Pend} {k : Nat} {p : Pend} {i : Int} (hp : ps[k]? = some p) (hne : p.1 ≠ i) (h : ∀ q ∈ ps.drop (k + 1), q.1 ≠ i) : ∀ q ∈ ps.drop k, q.1 ≠ i := by
  have hk := (List.getElem?_eq_some_iff.1 hp).1
  have e : ps.drop k = p :: ps.drop (k + 1) := by
    rw [List.drop_eq_getElem_cons hk]
    congr 1
    exact (List.getElem?_eq_some_iff.1 hp).2
  rw [e]
  intro q hq
  rcases List.mem_cons.1 hq with rfl | hq
  · exact hne
  · exact h q hq
set_option maxRecDepth 100000 in
set_option maxHeartbeats 1600000 in
theorem read_any (a : Option Addr) (c m n : Nat) (ss : List ByteArray) (ps : List Pend) (j : Nat) (t : ByteArray) (w : World) (hs : Strs w (.slice a ss.length c) ss) (hm : MapIs w m n (fun i => ps[i]?)) (hzp : ps.length ≤ 200) (ht : ss[j]? = some t) (hz : ss.length ≤ 64) :
    Calls Tryd.prog 81 #[.agg #[.slice a ss.length c, .map (some m), .int .i64 (ps.length : Nat)], .int .i64 j] w fun e w' => e = .returned (.string (readOf t ps j)) ∧ Below w.heap.size w w' := by
  have hj := (List.getElem?_eq_some_iff.1 ht).1
  have b0 := albel w (.cells #[.slice a ss.length c, .map (some m), .int .i64 (ps.length : Nat)] 107)
  have H0 : Hid (RelG ps j (w.alloc (.cells #[.slice a ss.length c, .map (some m), .int .i64 (ps.length : Nat)] 107)) (.int .i64 ((ps.length : Int) - 1)) (w.alloc (.cells #[.slice a ss.length c, .map (some m), .int .i64 (ps.length : Nat)] 107))) := ⟨ps.length, Nat.le_refl _, rfl, by simp, Below.refl _ _⟩
  have HT : Hid (ss[j]? = some t) := ht
  clear ht
  go_enter Tryd.func81, Tryd.ntmps81
  go_wp2
  obtain ⟨W, hW⟩ : ∃ W, w.alloc (.cells #[.slice a ss.length c, .map (some m), .int .i64 (ps.length : Nat)] 107) = W := ⟨_, rfl⟩
  have kW : W.heap[w.heap.size]? = some (.cells #[.slice a ss.length c, .map (some m), .int .i64 (ps.length : Nat)] 107) := by rw [← hW]; exact heap_alloc_new w _
  rw [hW] at H0 b0 ⊢
  clear hW
  go_loopw [5] (fun x wr => RelG ps j W x wr) (fun x _ => (intOf x + 1).toNat)
  case atStart => exact H0.out
  case round =>
    clear H0
    obtain ⟨k, hk, rfl, hd, hB⟩ := hrel
    have kr := carry kW hB
    obtain ⟨l0, l1, l2, lf, l9⟩ := blk3 kr
    have B1 := bel2 b0 hB
    by_cases hlt : 0 < k
    · obtain ⟨k', rfl⟩ : ∃ k', k = k' + 1 := ⟨k - 1, by omega⟩
      have e1 : ((k' + 1 : Nat) : Int) - 1 = (k' : Int) := by omega
      rw [e1]
      obtain ⟨p, hpk⟩ : ∃ p, ps[k']? = some p := ⟨_, List.getElem?_eq_getElem (by omega)⟩
      have hr := (hm.below B1).look_yes k' (by omega) p hpk
      have HP : Hid (ps[k']? = some p) := hpk
      have HB : Hid (Below W.heap.size W wr) := hB
      have HB1 : Hid (Below w.heap.size w wr) := B1
      have HD : Hid (∀ q ∈ ps.drop (k' + 1), q.1 ≠ (j : Int)) := hd
      clear hpk hd hB B1 kr
      by_cases he : p.1 = (j : Int)
      · have he' : (p.1 == (j : Int)) = true := by simpa using he
        have HF : Hid (readOf t ps j = p.2) := readOf_found t j ps k' p HP.out he HD.out
        clear he
        go_wp2
        go_ret
        exact ⟨by rw [HF.out]; rfl, balloc HB1.out _⟩
      · have he' : (p.1 == (j : Int)) = false := by simpa using he
        have HN : Hid (∀ q ∈ ps.drop k', q.1 ≠ (j : Int)) := drop_step HP.out he HD.out
        clear he
        go_wp2
        go_roundw
        case rel => exact ⟨k', by omega, rfl, HN.out, balloc HB.out _⟩
        case measure => simp [intOf]
    · obtain rfl : k = 0 := by omega
      have HF : Hid (readOf t ps j = t) := readOf_none t j ps (by simpa using hd)
      obtain ⟨a', cap, e, hl, hc⟩ := hs.below B1
      simp only [Value.slice.injEq] at e
      obtain ⟨rfl, -, rfl⟩ := e
      obtain ⟨b, off, rfl, hbb, hcc⟩ := hc (by omega)
      have c0 := hcc j t HT.out
      have hj' : (j : Int) < (ss.length : Int) := by omega
      have HB1 : Hid (Below w.heap.size w wr) := B1
      clear hcc hc hd hB B1 kr
      go_wp2
      go_ret
      exact ⟨by rw [HF.out]; rfl, HB1.out⟩
theorem MapIs.ne_cells {w : World} {b n g : Nat} {f : Nat → Option Pend} {cs : Array Value} {T : TypeId} {fr : Nat × Nat} (h : MapIs w b n f) (hg : w.heap[g]? = some (.cells cs T fr)) : g ≠ b := by
  obtain ⟨D, ⟨es, cl, h1, _⟩, _⟩ := h
  intro e
  subst e
  rw [hg] at h1; cases h1
theorem ne_row {B : Nat} {w : World} {b n : Nat} {f : Nat → Option Pend} {v : Value} {l : List ByteArray} (h : MapIs w b n f) (ho : OStrs B w v l) : v.ownBlock ≠ some b := by
  intro e
  rcases ho.2 with ⟨h1, _⟩ | ⟨g', cap, cur, h1, _, hg', _⟩
  · rw [h1] at e; simp [Value.ownBlock] at e
  · rw [h1] at e; simp [Value.ownBlock] at e; subst e; exact MapIs.ne_cells h hg' rfl
set_option maxRecDepth 100000 in
set_option maxHeartbeats 1600000 in
theorem flush_any (B : Nat) (a : Option Addr) (c m n k : Nat) (f : Nat → Option Pend) (ss : List ByteArray) (p : Pend) (x : Value) (w : World) (hs : OStrs B w (.slice a ss.length c) ss) (hm : MapIs w m n f) (hf : f k = some p) (hk : k < 1000) (hp0 : 0 ≤ p.1) (hp1 : p.1 < ss.length) (hz : ss.length ≤ 64) :
    Calls Tryd.prog 76 #[.agg #[.slice a ss.length c, .map (some m), x], .int .i64 k] w fun e w' => e = .returned (.tuple #[]) ∧ OStrs B w' (.slice a ss.length c) (putOne ss p) ∧ MapIs w' m n (upd f k none) ∧ Wrote (fun g => g = m ∨ mine (.slice a ss.length c) g) w w' := by
  obtain ⟨g, rfl, -, hBg, hgz⟩ := form_strs hs (by omega)
  obtain ⟨z, d⟩ := p
  dsimp only at hp0 hp1
  obtain ⟨q, rfl⟩ : ∃ q : Nat, z = q := ⟨z.toNat, by omega⟩
  have hq : (q : Int) < (ss.length : Int) := hp1
  have hne := ne_row hm hs
  have hgm : g ≠ m := fun e => hne (by rw [e]; rfl)
  obtain ⟨⟨o, ho⟩, hfo⟩ := own_cell_s hs q (by omega)
  have hr := (hm.alloc (.cells #[.slice (some ⟨g, 0, none⟩) ss.length c, .map (some m), x] 107)).look k hk _ hf
  have al := bel2 (albel (w.setCell ⟨g, q, none⟩ (.string d)) (.cells #[.slice (some ⟨g, 0, none⟩) ss.length c, .map (some m), x] 107)) (albel _ (.cells #[.int .i64 q, .string d] 73))
  obtain ⟨w2, hdel, hm2, hg2⟩ := ((hm.setCell (a := ⟨g, q, none⟩) (fun e => hgm e.symm) (.string d)).below al).drop k hk 0
  have HS : Hid (OStrs B w2 (.slice (some ⟨g, 0, none⟩) ss.length c) (putOne ss (q, d))) := by
    have h1 := (stored_strs hs rfl q d).below al
    exact own_keep h1 fun g' hg' => hg2.block g' (h1.lt g' hg').2 (fun e => hgm (by simp [Value.ownBlock] at hg'; rw [hg']; simpa using e))
  have HW : Hid (Wrote (fun g' => g' = m ∨ mine (.slice (some ⟨g, 0, none⟩) ss.length c) g') w w2) :=
    (((Wrote.refl _ w).setCell (p := ⟨g, q, none⟩) (.inr (.inr rfl)) (.string d)).trans (Wrote.of_below al)).trans (Wrote.of_grown hg2 (fun k' e => .inl (by simpa using e.symm)))
  have HM : Hid (MapIs w2 m n (upd f k none)) := hm2
  clear al hm hs hne hf hm2 hg2
  go_enter Tryd.func76, Tryd.ntmps76
  go_wp2
  go_end0
  exact ⟨rfl, HS.out, HM.out, HW.out⟩
def RelE (N : Nat) (W : World) (x : Value) (wr : World) : Prop := ∃ k : Nat, k ≤ N ∧ x = .int .i64 k ∧ Below W.heap.size W wr
theorem k_box3 (w : World) (x y z : Obj) : (((w.alloc x).alloc y).alloc z).heap[w.heap.size]? = some x ∧ (((w.alloc x).alloc y).alloc z).heap[w.heap.size + 1]? = some y ∧ (((w.alloc x).alloc y).alloc z).heap[w.heap.size + 1 + 1]? = some z ∧ Below w.heap.size w (((w.alloc x).alloc y).alloc z) :=
  ⟨carryA (k_box w x y).1 z, carryA (k_box w x y).2.1 z, alloc_at (by simp), balloc (k_box w x y).2.2.1 z⟩
set_option maxRecDepth 100000 in
set_option maxHeartbeats 1600000 in
theorem disk_any (a : Option Addr) (l c m n N : Nat) (f : Nat → Option Pend) (w : World) (hm : MapIs w m n f) (hf : ∀ i, i < N → f i = none) (hN : N ≤ 200) :
    Calls Tryd.prog 77 #[.agg #[.slice a l c, .map (some m), .int .i64 (N : Nat)]] w fun e w' => e = .returned (.agg #[.slice a l c, .slice none 0 0]) ∧ Below w.heap.size w w' := by
  obtain ⟨k0, k1, k2, b0⟩ := k_box3 w (.cells #[.slice a l c, .map (some m), .int .i64 (N : Nat)] 107) (.cells #[.slice none 0 0, .slice none 0 0] 29) (.cells #[.slice a l c, .slice none 0 0] 29)
  go_enter Tryd.func77, Tryd.ntmps77
  go_wp2
  obtain ⟨W, hW⟩ : ∃ W, ((w.alloc (.cells #[.slice a l c, .map (some m), .int .i64 (N : Nat)] 107)).alloc (.cells #[.slice none 0 0, .slice none 0 0] 29)).alloc (.cells #[.slice a l c, .slice none 0 0] 29) = W := ⟨_, rfl⟩
  rw [hW] at k0 k1 k2 b0 ⊢
  clear hW
  have H0 : Hid (RelE N W (.int .i64 0) W) := ⟨0, Nat.zero_le _, rfl, Below.refl _ _⟩
  go_loopw [12] (fun x wr => RelE N W x wr) (fun x _ => N - (intOf x).toNat)
  case atStart => exact H0.out
  case round =>
    clear H0
    obtain ⟨k, hk, rfl, hB⟩ := hrel
    obtain ⟨l0, l1, l2, lf, l9⟩ := blk3 (carry k0 hB)
    obtain ⟨s0, s1, sf, s9⟩ := blk2 (carry k1 hB)
    obtain ⟨t0, t1, tf, t9⟩ := blk2 (carry k2 hB)
    have B1 := bel2 b0 hB
    have HB : Hid (Below W.heap.size W wr) := hB
    have HB1 : Hid (Below w.heap.size w wr) := B1
    by_cases hlt : k < N
    · have hlt' : (k : Int) < (N : Int) := by omega
      have hr := (hm.below B1).look_no k (by omega) (hf k hlt)
      clear hB B1
      go_wp2
      go_roundw
      case rel => exact ⟨k + 1, by omega, by go_num, balloc HB.out _⟩
      case measure => simp [intOf]; omega
    · clear hB B1
      go_wp2
      exact bodyPost_ret (v := .agg #[.slice a l c, .slice none 0 0]) (by simp [results, Tryd.results77, go_sem, s0, s1]) rfl ⟨rfl, (HB1.out.setCell (p := ⟨w.heap.size + 1, 0, none⟩) (by show w.heap.size ≤ w.heap.size + 1; omega) _).setCell (p := ⟨w.heap.size + 1, 1, none⟩) (by show w.heap.size ≤ w.heap.size + 1; omega) _⟩
end Go.Proofs.YtfiabbfdnmldjaaDoor.T8
