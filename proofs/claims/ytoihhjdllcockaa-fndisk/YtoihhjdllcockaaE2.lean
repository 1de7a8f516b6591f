/-
  The draws for DiskRead, DiskNew and DiskWrite.
-/
import Derived.Test.YtoihhjdllcockaaE1
namespace Go.Proofs.Ytoihhjdllcockaa.E2
open Go.RowKit
open Go.Proofs.Ytoihhjdllcockaa.C0 Go.Proofs.Ytoihhjdllcockaa.D0 Go.Proofs.Ytoihhjdllcockaa.D6 Go.Proofs.Ytoihhjdllcockaa.D7 Go.Proofs.Ytoihhjdllcockaa.D8 Go.Proofs.Ytoihhjdllcockaa.D9 Go.Proofs.Ytoihhjdllcockaa.E0 Go.Proofs.Ytoihhjdllcockaa.E1 Go.Proofs.Ytoihhjdllcockaa.S0 Go.Proofs.Ytoihhjdllcockaa.S1 Go.Proofs.Ytoihhjdllcockaa.S2 Go.Proofs.Ytoihhjdllcockaa.S4 Go.Proofs.Ytoihhjdllcockaa.S7 Go.Proofs.Ytoihhjdllcockaa.O1 Go.Proofs.Ytoihhjdllcockaa.T2 Go.Proofs.Ytoihhjdllcockaa.T3 Go.Proofs.Ytoihhjdllcockaa.T4 Go.Proofs.Ytoihhjdllcockaa.T5 Go.Proofs.Ytoihhjdllcockaa.TC
theorem srcA (v : Value) (n : Nat) (w : World) (o : Obj) (hc : IsCode w.heap.size w v n) :
    Calls Try.prog 35 #[v] (w.alloc o) fun e w' => e = .returned (.pointer (some ⟨w.heap.size + 1, 0, none⟩)) ∧ Dr (w.heap.size + 1) (w.heap.size + 1) n v w' ∧ Below (w.heap.size + 1) (w.alloc o) w' := by
  have hz : (w.alloc o).heap.size = w.heap.size + 1 := by simp
  have h := drawSource v n (w.alloc o) (by rw [hz]; exact (hc.below (albel w o) (Nat.le_refl _)).up (by omega))
  rw [hz] at h
  exact h
theorem convX {x : World} {g r : Nat} (hn : x.heap[g]? = some (zer r)) : (convert 22 9 (.slice (some ⟨g, 0, none⟩) (64 + r) (64 + r))).run Try.prog x = .ok (.string (zt r)) x := by
  have := run_convert_bytes_back x 22 9 5 ⟨g, 0, none⟩ (64 + r) (List.replicate (64 + r) 0) Try.underlying22 Try.underlying5 Try.underlying9 ?_
  · simpa [zt] using this
  · intro j hj
    simp only [List.length_replicate] at hj
    unfold zer at hn
    rw [add0]
    simp [World.cell?, hn, hj]
theorem madeS (r : Nat) (h : (r : Int) < 2) (w : World) (g : Nat) (x y : Value) : (Instr.makeSlice 22 (.int .i64 (64 + (r : Int))) (.int .i64 (64 + (r : Int)))).run Try.prog ((w.setCell ⟨g, 0, none⟩ x).setCell ⟨g, 1, none⟩ y) = .ok (.slice (some ⟨w.heap.size, 0, none⟩) (64 + r) (64 + r)) (((w.setCell ⟨g, 0, none⟩ x).setCell ⟨g, 1, none⟩ y).alloc (zer r)) := by
  have h := madeZ r h ((w.setCell ⟨g, 0, none⟩ x).setCell ⟨g, 1, none⟩ y)
  have hz : ((w.setCell ⟨g, 0, none⟩ x).setCell ⟨g, 1, none⟩ y).heap.size = w.heap.size := by simp [World.setCell]
  rw [hz] at h
  exact h
theorem convS (r : Nat) (w : World) (g : Nat) (x y : Value) : (convert 22 9 (.slice (some ⟨w.heap.size, 0, none⟩) (64 + r) (64 + r))).run Try.prog (((w.setCell ⟨g, 0, none⟩ x).setCell ⟨g, 1, none⟩ y).alloc (zer r)) = .ok (.string (zt r)) (((w.setCell ⟨g, 0, none⟩ x).setCell ⟨g, 1, none⟩ y).alloc (zer r)) := by
  have hz : ((w.setCell ⟨g, 0, none⟩ x).setCell ⟨g, 1, none⟩ y).heap.size = w.heap.size := by simp [World.setCell]
  have h := convZ r ((w.setCell ⟨g, 0, none⟩ x).setCell ⟨g, 1, none⟩ y)
  rw [hz] at h
  exact h
section
variable {w wr : World} {p n L c c' : Nat} {v : Value} {ss : List ByteArray} {ps : List Pend} {a a' : Option Addr}
theorem keepR (h : GS w p n v L ss ps a c a' c' wr) (x y : Value) : ((wr.setCell ⟨w.heap.size, 0, none⟩ x).setCell ⟨w.heap.size, 1, none⟩ y).cell? ⟨L, 0, none⟩ = some (.slice a ss.length c) ∧ ((wr.setCell ⟨w.heap.size, 0, none⟩ x).setCell ⟨w.heap.size, 1, none⟩ y).cell? ⟨L, 1, none⟩ = some (.slice a' ps.length c') := by
  have k := carryW h.loc (D7.set2_wrote wr w.heap.size x y) (by have := h.plt; have := h.lt; omega)
  exact ⟨(blk2 k).1, (blk2 k).2.1⟩
end
def DrewRead (w : World) (e : Ending) (w' : World) : Prop :=
  ∃ (ss : List ByteArray) (ps : List Pend) (a : Option Addr) (c : Nat) (a' : Option Addr) (c' : Nat) (z : Int), e = .returned (.tuple #[.agg #[.slice a ss.length c, .slice a' ps.length c'], .int .i64 z]) ∧ -9223372036854775808 ≤ z ∧ z ≤ 9223372036854775807 ∧ Got w ss ps a c a' c' w'
set_option maxRecDepth 100000 in
set_option maxHeartbeats 1600000 in
theorem read_draw (v : Value) (n : Nat) (w : World) (hc : IsCode w.heap.size w v n) :
    Calls Try.prog 15 #[v] w fun e w' => DrewRead w e w' := by
  go_enter Try.func15, Try.ntmps15
  go_wp2_with fail
  refine (srcA v n w _ hc).mono ?_
  rintro e w1 ⟨rfl, d1, b1⟩
  go_wp2_with fail
  refine (l03Disk_any _ _ n v w1 d1).mono ?_
  rintro e w2 ⟨ss, ps, a, c, a', c', rfl, o2, l1, l2, z1, z2, d2, t2⟩
  have G := GS.start b1 d1.lt o2 l1 l2 z1 z2 d2 t2
  clear b1 d1 o2 l1 l2 z1 z2 d2 t2
  go_wp2_with fail
  generalize w2.heap.size = L at *
  refine (gOne 10 G (by omega) (by omega)).mono ?_
  rintro e w3 ⟨bo, rfl, G⟩
  obtain ⟨q0, q1, qf, q9⟩ := blk2 G.loc
  cases bo
  · go_upto_region 5 with fail
    go_region_held3 (fun w' => w'.cell? ⟨L, 0, none⟩ = some (.slice a ss.length c) ∧ w'.cell? ⟨L, 1, none⟩ = some (.slice a' ps.length c'))
      (first
        | with_reducible exact keepG G
        | with_reducible exact keepG G.drew
        | with_reducible exact keepR G _ _)
      (first
        | (go_at_call 37
           refine (gN (w := w) (p := w.heap.size + 1) (n := n) (v := v) (L := L) (ss := ss) (ps := ps) (a := a) (c := c) (a' := a') (c' := c') _ ?hE (by omega) (by omega)).mono ?_
           case hE => first | exact G | exact G.drew
           rintro e w4 ⟨r4, rfl, hr4, G⟩
           obtain ⟨r0, r1, rf, r9⟩ := blk2 G.res))
    have HF : Hid (DrewRead w (.returned (.tuple #[.agg #[.slice a ss.length c, .slice a' ps.length c'], .int .i64 (r4 : Int)])) ((w4.setCell ⟨w.heap.size, 0, none⟩ (.slice a ss.length c)).setCell ⟨w.heap.size, 1, none⟩ (.slice a' ps.length c'))) := ⟨ss, ps, a, c, a', c', r4, rfl, by omega, by omega, G.fill _ _⟩
    go_wp2_with fail
    exact bodyPost_ret (v := .tuple #[.agg #[.slice a ss.length c, .slice a' ps.length c'], .int .i64 (r4 : Int)]) (by simp [results, Try.results15, go_sem, r0, r1]) rfl HF.out
  · go_upto_region 4 with fail
    go_region_held3 (fun w' => w'.cell? ⟨L, 0, none⟩ = some (.slice a ss.length c) ∧ w'.cell? ⟨L, 1, none⟩ = some (.slice a' ps.length c'))
      (first
        | with_reducible exact keepG G
        | with_reducible exact keepG G.drew
        | with_reducible exact keepR G _ _)
      (first
        | (go_at_call 46
           refine (gEdge (w := w) (p := w.heap.size + 1) (n := n) (v := v) (L := L) (ss := ss) (ps := ps) (a := a) (c := c) (a' := a') (c' := c') ?hE).mono ?_
           case hE => first | exact G | exact G.drew
           rintro e w4 ⟨r4, rfl, hr4, hr5, G⟩
           obtain ⟨r0, r1, rf, r9⟩ := blk2 G.res))
    have HF : Hid (DrewRead w (.returned (.tuple #[.agg #[.slice a ss.length c, .slice a' ps.length c'], .int .i64 r4])) ((w4.setCell ⟨w.heap.size, 0, none⟩ (.slice a ss.length c)).setCell ⟨w.heap.size, 1, none⟩ (.slice a' ps.length c'))) := ⟨ss, ps, a, c, a', c', r4, rfl, by omega, by omega, G.fill _ _⟩
    go_wp2_with fail
    exact bodyPost_ret (v := .tuple #[.agg #[.slice a ss.length c, .slice a' ps.length c'], .int .i64 r4]) (by simp [results, Try.results15, go_sem, r0, r1]) rfl HF.out
def DrewWrite (w : World) (e : Ending) (w' : World) : Prop :=
  ∃ (ss : List ByteArray) (ps : List Pend) (a : Option Addr) (c : Nat) (a' : Option Addr) (c' : Nat) (i : Nat) (t : ByteArray), e = .returned (.tuple #[.agg #[.slice a ss.length c, .slice a' ps.length c'], .int .i64 (i : Int), .string t]) ∧ i < 9 ∧ t.size ≤ 65 ∧ Got w ss ps a c a' c' w'
set_option maxRecDepth 100000 in
set_option maxHeartbeats 1600000 in
theorem write_draw (v : Value) (n : Nat) (w : World) (hc : IsCode w.heap.size w v n) :
    Calls Try.prog 9 #[v] w fun e w' => DrewWrite w e w' := by
  go_enter Try.func9, Try.ntmps9
  go_wp2_with fail
  refine (srcA v n w _ hc).mono ?_
  rintro e w1 ⟨rfl, d1, b1⟩
  go_wp2_with fail
  refine (l03Disk_any _ _ n v w1 d1).mono ?_
  rintro e w2 ⟨ss, ps, a, c, a', c', rfl, o2, l1, l2, z1, z2, d2, t2⟩
  have G := GS.start b1 d1.lt o2 l1 l2 z1 z2 d2 t2
  clear b1 d1 o2 l1 l2 z1 z2 d2 t2
  go_wp2_with fail
  generalize w2.heap.size = L at *
  refine (gN 9 G (by omega) (by omega)).mono ?_
  rintro e w3 ⟨i, rfl, hi, G⟩
  go_wp2_with fail
  refine (gOne 10 G (by omega) (by omega)).mono ?_
  rintro e w3 ⟨bo, rfl, G⟩
  have hi9 : i < 9 := by omega
  obtain ⟨q0, q1, qf, q9⟩ := blk2 G.loc
  cases bo
  · go_upto_region 6 with fail
    go_region_held3 (fun w' => w'.cell? ⟨L, 0, none⟩ = some (.slice a ss.length c) ∧ w'.cell? ⟨L, 1, none⟩ = some (.slice a' ps.length c'))
      (first
        | with_reducible exact keepG G
        | with_reducible exact keepG G.drew
        | with_reducible exact keepR G _ _)
      (first
        | (go_at_call 37
           refine (gN (w := w) (p := w.heap.size + 1) (n := n) (v := v) (L := L) (ss := ss) (ps := ps) (a := a) (c := c) (a' := a') (c' := c') _ ?hE (by omega) (by omega)).mono ?_
           case hE => first | exact G | exact G.drew
           rintro e w4 ⟨r4, rfl, hr4, G⟩)
        | (go_at_call 39
           refine (gBytes (w := w) (p := w.heap.size + 1) (n := n) (v := v) (L := L) (ss := ss) (ps := ps) (a := a) (c := c) (a' := a') (c' := c') _ ?hE (by omega)).mono ?_
           case hE => first | exact G | exact G.drew
           rintro e w5 ⟨t, rfl, ht, G⟩
           obtain ⟨r0, r1, rf, r9⟩ := blk2 G.res))
    have HF : Hid (DrewWrite w (.returned (.tuple #[.agg #[.slice a ss.length c, .slice a' ps.length c'], .int .i64 (i : Int), .string t])) ((w5.setCell ⟨w.heap.size, 0, none⟩ (.slice a ss.length c)).setCell ⟨w.heap.size, 1, none⟩ (.slice a' ps.length c'))) := ⟨ss, ps, a, c, a', c', i, t, rfl, hi9, by omega, G.fill _ _⟩
    go_wp2_with fail
    exact bodyPost_ret (v := .tuple #[.agg #[.slice a ss.length c, .slice a' ps.length c'], .int .i64 (i : Int), .string t]) (by simp [results, Try.results9, go_sem, r0, r1]) rfl HF.out
  · go_upto_region 5 with fail
    go_region_with
      (first
        | (go_at_call 37
           refine (gN (w := w) (p := w.heap.size + 1) (n := n) (v := v) (L := L) (ss := ss) (ps := ps) (a := a) (c := c) (a' := a') (c' := c') _ ?hE (by omega) (by omega)).mono ?_
           case hE => first | exact G | exact G.drew
           rintro e w4 ⟨r4, rfl, hr4, G⟩
           have hw4 := wrap64 r4 hr4
           have hm4 := madeZ r4 hr4 w4
           have hc4 := convZ r4 w4
           have hc5 := convX (carryW (heap_alloc_new w4 (zer r4)) (D7.set2_wrote (w4.alloc (zer r4)) w.heap.size (.slice a ss.length c) (.slice a' ps.length c')) (by have := lt_some G.res; omega))
           have hm6 := madeS r4 hr4 w4 w.heap.size (.slice a ss.length c) (.slice a' ps.length c')
           have hc6 := convS r4 w4 w.heap.size (.slice a ss.length c) (.slice a' ps.length c')
           obtain ⟨t0, t1, tf, t9⟩ := blk2 G.loc
           obtain ⟨s0, s1, sf, s9⟩ := blk2 G.res
           obtain ⟨u0, u1, uf, u9⟩ := blk2 (carryA (D7.set2_at G.res (.slice a ss.length c) (.slice a' ps.length c')) (zer r4))
           have G5 := G.below (albel w4 (zer r4))
           obtain ⟨v0, v1, vf, v9⟩ := blk2 G5.loc
           obtain ⟨r0, r1, rf, r9⟩ := blk2 G5.res))
    all_goals
      have HA : Hid (DrewWrite w (.returned (.tuple #[.agg #[.slice a ss.length c, .slice a' ps.length c'], .int .i64 (i : Int), .string (zt r4)])) (((w4.alloc (zer r4)).setCell ⟨w.heap.size, 0, none⟩ (.slice a ss.length c)).setCell ⟨w.heap.size, 1, none⟩ (.slice a' ps.length c'))) := ⟨ss, ps, a, c, a', c', i, zt r4, rfl, hi9, by rw [zt_size]; omega, G5.fill _ _⟩
      have HB : Hid (DrewWrite w (.returned (.tuple #[.agg #[.slice a ss.length c, .slice a' ps.length c'], .int .i64 (i : Int), .string (zt r4)])) (((w4.setCell ⟨w.heap.size, 0, none⟩ (.slice a ss.length c)).setCell ⟨w.heap.size, 1, none⟩ (.slice a' ps.length c')).alloc (zer r4))) := ⟨ss, ps, a, c, a', c', i, zt r4, rfl, hi9, by rw [zt_size]; omega, (G.fill _ _).below (albel _ _)⟩
      clear t0 t1 tf t9 v0 v1 vf v9 hc4 hc5 hc6 hm4 hm6 G5 q0 q1 qf q9
      go_wp2_with fail
      first
        | exact bodyPost_ret (v := .tuple #[.agg #[.slice a ss.length c, .slice a' ps.length c'], .int .i64 (i : Int), .string (zt r4)]) (by simp [results, Try.results9, go_sem, r0, r1]) rfl HA.out
        | exact bodyPost_ret (v := .tuple #[.agg #[.slice a ss.length c, .slice a' ps.length c'], .int .i64 (i : Int), .string (zt r4)]) (by simp [results, Try.results9, go_sem, u0, u1]) rfl HB.out
end Go.Proofs.Ytoihhjdllcockaa.E2
