/-
  The draws for DiskNew and DiskCrash.
-/
import Derived.Test.YtoihhjdllcockaaE2
namespace Go.Proofs.Ytoihhjdllcockaa.E3
open Go.RowKit
open Go.Proofs.Ytoihhjdllcockaa.C0 Go.Proofs.Ytoihhjdllcockaa.D0 Go.Proofs.Ytoihhjdllcockaa.D6 Go.Proofs.Ytoihhjdllcockaa.D7 Go.Proofs.Ytoihhjdllcockaa.D8 Go.Proofs.Ytoihhjdllcockaa.D9 Go.Proofs.Ytoihhjdllcockaa.E0 Go.Proofs.Ytoihhjdllcockaa.E1 Go.Proofs.Ytoihhjdllcockaa.E2 Go.Proofs.Ytoihhjdllcockaa.S0 Go.Proofs.Ytoihhjdllcockaa.S1 Go.Proofs.Ytoihhjdllcockaa.S2 Go.Proofs.Ytoihhjdllcockaa.S4 Go.Proofs.Ytoihhjdllcockaa.S7 Go.Proofs.Ytoihhjdllcockaa.O1 Go.Proofs.Ytoihhjdllcockaa.T2 Go.Proofs.Ytoihhjdllcockaa.T3 Go.Proofs.Ytoihhjdllcockaa.T4 Go.Proofs.Ytoihhjdllcockaa.T5 Go.Proofs.Ytoihhjdllcockaa.TC
def DrewNew (w : World) (e : Ending) (w' : World) : Prop := ∃ z : Int, e = .returned (.int .i64 z) ∧ -9223372036854775808 ≤ z ∧ z ≤ 9223372036854775807 ∧ Below w.heap.size w w'
theorem blk5 {w : World} {g : Nat} {a b c d e : Value} {T : TypeId} (h : w.heap[g]? = some (.cells #[a, b, c, d, e] T (0, 0))) : w.cell? ⟨g, 0, none⟩ = some a ∧ w.cell? ⟨g, 1, none⟩ = some b ∧ w.cell? ⟨g, 2, none⟩ = some c ∧ w.cell? ⟨g, 3, none⟩ = some d ∧ w.cell? ⟨g, 4, none⟩ = some e :=
  ⟨by simp [World.cell?, h], by simp [World.cell?, h], by simp [World.cell?, h], by simp [World.cell?, h], by simp [World.cell?, h]⟩
set_option maxRecDepth 100000 in
set_option maxHeartbeats 800000 in
theorem new_draw (v : Value) (n : Nat) (w : World) (hc : IsCode w.heap.size w v n) :
    Calls Try.prog 14 #[v] w fun e w' => DrewNew w e w' := by
  go_enter Try.func14, Try.ntmps14
  go_wp2_with fail
  refine (drawSource v n w hc).mono ?_
  rintro e w1 ⟨rfl, d1, b1⟩
  go_wp2_with fail
  refine (drawOne 3 d1 (by omega) (by omega)).mono ?_
  rintro e w2 ⟨bo, rfl, d2, t2⟩
  have b2 := wrote_bel b1 t2 (Nat.le_refl _) (fun g e => by unfold only at e; omega)
  clear d1 b1 t2
  cases bo
  · go_wp2_with fail
    refine (drawN 20 d2 (by omega) (by omega)).mono ?_
    rintro e w3 ⟨r, rfl, hr, d3, t3⟩
    have HF : Hid (DrewNew w (.returned (.int .i64 (r : Int))) w3) := ⟨r, rfl, by omega, by omega, wrote_bel b2 t3 (Nat.le_refl _) (fun g e => by unfold only at e; omega)⟩
    go_wp2
    go_ret
    exact HF.out
  · go_wp2_with fail
    refine (drawEdge d2).mono ?_
    rintro e w3 ⟨z, rfl, hz1, hz2, d3, t3⟩
    have b3 := (wrote_bel b2 t3 (Nat.le_refl _) (fun g e => by unfold only at e; omega)).alloc (by have := b2.size; have := t3.size; omega) (.cells #[.int .i64 0, .int .i64 1, .int .i64 64, .int .i64 65, .int .i64 z] 2)
    have d3' := d3.below (albel w3 (.cells #[.int .i64 0, .int .i64 1, .int .i64 64, .int .i64 65, .int .i64 z] 2))
    have k3 := heap_alloc_new w3 (.cells #[.int .i64 0, .int .i64 1, .int .i64 64, .int .i64 65, .int .i64 z] 2)
    have hp := d3.lt
    clear d2 b2 t3 d3
    go_wp2_with fail
    refine (drawN 5 d3' (by omega) (by omega)).mono ?_
    rintro e w4 ⟨r, rfl, hr, d4, t4⟩
    have HF : ∀ y : Int, -9223372036854775808 ≤ y → y ≤ 9223372036854775807 → DrewNew w (.returned (.int .i64 y)) w4 := fun y h1 h2 => ⟨y, rfl, h1, h2, wrote_bel b3 t4 (Nat.le_refl _) (fun g e => by unfold only at e; omega)⟩
    obtain ⟨c0, c1, c2, c3, c4⟩ := blk5 (carryP k3 t4 (by omega))
    clear d3' b3 k3 d4 t4
    obtain rfl | rfl | rfl | rfl | rfl : r = 0 ∨ r = 1 ∨ r = 2 ∨ r = 3 ∨ r = 4 := by omega
    · go_wp2
      go_ret
      exact HF _ (by omega) (by omega)
    · go_wp2
      go_ret
      exact HF _ (by omega) (by omega)
    · go_wp2
      go_ret
      exact HF _ (by omega) (by omega)
    · go_wp2
      go_ret
      exact HF _ (by omega) (by omega)
    · go_wp2
      go_ret
      exact HF _ (by omega) (by omega)
theorem info_int : (Try.prog.info? 2).map (fun i => (i.zero, i.size, i.bytes)) = some (some (.int .i64 0), 1, 8) := by kernel_rfl
/-- A row of int of the call's own. -/
abbrev OK (B : Nat) (w : World) (v : Value) (l : List Int) : Prop := w.ownsRow B 2 1 v l.length (ci l)
theorem OK.ints {B : Nat} {w : World} {v : Value} {l : List Int} (h : OK B w v l) : Ints w v l := by
  have h' := h
  rcases h.2 with ⟨rfl, h0⟩ | ⟨g, cap, cur, rfl, hb, hg, hnc, hcm, hcs, htake⟩
  · exact ⟨none, 0, by rw [h0], by rw [h0]; exact Nat.zero_le _, fun q => by omega⟩
  · refine ⟨_, cap, rfl, by omega, fun _ => ⟨g, 0, rfl, (Array.getElem?_eq_some_iff.1 hg).1, fun i s hs => ?_⟩⟩
    have := World.ownsRow.cells h' rfl i (.int .i64 s) (by simp [ci, hs])
    rwa [add0] at this
theorem ci_snoc (l : List Int) (z : Int) : ci (l ++ [z]) = ci l ++ [.int .i64 z] := by simp [ci]
def RelK (B p n : Nat) (v : Value) (w : World) (x y : Value) (wr : World) : Prop :=
  ∃ (k : Nat) (l : List Int) (a : Option Addr) (cap : Nat), l.length + k ≤ 13 ∧ y = .int .i64 k ∧ x = .slice a l.length cap ∧ OK w.heap.size wr (.slice a l.length cap) l ∧ Dr B p n v wr ∧ Wrote (only p) w wr
def DrewKeep (B p n : Nat) (v : Value) (w : World) (e : Ending) (w' : World) : Prop :=
  ∃ (l : List Int) (a : Option Addr) (cap : Nat), e = .returned (.slice a l.length cap) ∧ l.length ≤ 13 ∧ OK w.heap.size w' (.slice a l.length cap) l ∧ Dr B p n v w' ∧ Wrote (only p) w w'
theorem RelK.more {B p n k g cap c : Nat} {v : Value} {w wr X w' : World} {l : List Int} {a : Option Addr} {z : Int} (hk : 0 < k) (hl : l.length + k ≤ 13) (ho : OK w.heap.size wr (.slice a l.length c) l) (hd : Dr B p n v wr) (ht : Wrote (only p) w wr) (hp : p < w.heap.size) (al : Below wr.heap.size wr X)
    (hown : w'.ownsRow w.heap.size 2 1 (.slice (some ⟨g, 0, none⟩) (l.length + 1) cap) (l.length + 1) (ci l ++ [.int .i64 z])) (hg : X.grownBy w' (Value.slice a l.length c).ownBlock) :
    RelK B p n v w (.slice (some ⟨g, 0, none⟩) (l.length + 1) cap) (.int .i64 ((k : Int) - 1)) w' := by
  have hll : (l ++ [z]).length = l.length + 1 := by simp
  have ht1 : Wrote (fun k => (Value.slice a l.length c).ownBlock = some k) X w' := Wrote.of_grown hg (fun k e => e)
  have hlo : ∀ k, (Value.slice a l.length c).ownBlock = some k → w.heap.size ≤ k := fun k e => (ho.lt k e).1
  have ht2 := (Wrote.of_below (S := fun k => (Value.slice a l.length c).ownBlock = some k) al).trans ht1
  refine ⟨k - 1, l ++ [z], some ⟨g, 0, none⟩, cap, by omega, by congr 1; omega, by rw [hll], ?_, hd.wrote ht2 (fun g e => by have := hlo g e; omega), ⟨ht2.os.trans ht.os, ht2.tape.trans ht.tape, ht2.output.trans ht.output, Nat.le_trans ht.size ht2.size, fun k hk hs => (ht2.block k (Nat.lt_of_lt_of_le hk ht.size) (fun e => by have := hlo k e; omega)).trans (ht.block k hk hs)⟩⟩
  unfold OK
  rw [hll, ci_snoc]
  exact hown
set_option maxRecDepth 100000 in
set_option maxHeartbeats 800000 in
theorem keep_any (B p n : Nat) (v : Value) (w : World) (h : Dr B p n v w) :
    Calls Try.prog 42 #[.pointer (some ⟨p, 0, none⟩)] w fun e w' => DrewKeep B p n v w e w' := by
  have hplt := h.lt
  obtain ⟨j0, hj, hy0, hy1, hy2⟩ := info_parts info_int
  go_enter Try.func42, Try.ntmps42
  go_wp2_with fail
  refine (drawN 14 (h.below (albel _ _)) (by omega) (by omega)).mono ?_
  rintro e w1 ⟨r, rfl, hr, d1, t1⟩
  have ho : OK w.heap.size (w.alloc (.cells #[] 2)) (.slice (some ⟨w.heap.size, 0, none⟩) 0 0) [] := World.ownsRow_lit w #[] 0 (Nat.le_refl _) (by decide) rfl
  have H0 : Hid (RelK B p n v w (.slice (some ⟨w.heap.size, 0, none⟩) 0 0) (.int .i64 (r : Int)) w1) :=
    ⟨r, [], _, 0, by simp; omega, rfl, rfl, own_keep ho fun g hg => t1.block g (ho.lt g hg).2 (fun e => by have := (ho.lt g hg).1; unfold only at e; omega), d1, (Wrote.of_below (albel _ _)).trans t1⟩
  clear ho d1 t1
  go_wp2
  go_loopw [3, 4] (fun x y wr => RelK B p n v w x y wr) (fun _ y _ => (intOf y).toNat)
  case atStart => exact H0.out
  case round =>
    clear H0
    obtain ⟨k, l, a, cap, hl, rfl, rfl, ho, hd, ht⟩ := hrel
    by_cases hk : 0 < k
    · have hk' : (0 : Int) < (k : Int) := by omega
      go_wp2_with fail
      refine (drawN 2 hd (by omega) (by omega)).mono ?_
      rintro e w2 ⟨z, rfl, hz, d2, t2⟩
      have o2 : OK w.heap.size w2 (.slice a l.length cap) l := own_keep ho fun g hg => t2.block g (ho.lt g hg).2 (fun e => by have := (ho.lt g hg).1; unfold only at e; omega)
      have ht2 := ht.trans t2
      have hown : OK w.heap.size (w2.alloc (.cells #[.int .i64 (z : Int)] 2)) (.slice a l.length cap) l := own_keep o2 fun g hg => (albel w2 _).block g (o2.lt g hg).2
      have HE : Hid ((w2.alloc (.cells #[.int .i64 (z : Int)] 2)).heap[w2.heap.size]? = some (.cells #[.int .i64 (z : Int)] 2)) := heap_alloc_new w2 _
      have hzw : Hid (w.heap.size ≤ w2.heap.size) := ht2.size
      clear ho hd ht t2
      go_wp2_with (first
        | (at_builtin; refine wpList_append_lies _ rfl _ _ 32 rfl w.heap.size 2 j0 (.int .i64 0) 1 8 Try.underlying32 hj hy0 hy1 hy2 rfl (by decide) _ l.length (ci l) rfl hown ⟨w2.heap.size, 0, none⟩ 1 1 [.int .i64 (z : Int)] rfl rfl (World.news_of_block HE.out) (by intro u hu; simp at hu; subst hu; rfl) (by decide) (by unfold maxLen; omega) (by omega) (by simp; have := hzw.out; omega) _ rfl ?_; intro g cap' w3 hown3 hg3 hat3 hlt3))
      have HN : Hid (RelK B p n v w (.slice (some ⟨g, 0, none⟩) (l.length + 1) cap') (.int .i64 ((k : Int) - 1)) w3) := RelK.more hk hl o2 d2 ht2 hplt (albel _ _) hown3 hg3
      go_roundw
      case rel => exact HN.out
      case measure => simp [intOf]; omega
    · obtain rfl : k = 0 := by omega
      have HF : Hid (DrewKeep B p n v w (.returned (.slice a l.length cap)) wr) := ⟨l, a, cap, rfl, by omega, ho, hd, ht⟩
      go_wp2
      go_ret
      exact HF.out
end Go.Proofs.Ytoihhjdllcockaa.E3
