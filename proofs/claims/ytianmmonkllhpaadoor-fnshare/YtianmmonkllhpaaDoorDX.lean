/-
  A text that is spoilt; the draws of stage 6: elements, a secret, a share.
-/
import Derived.Test.YtianmmonkllhpaaDoorPM
import Derived.Test.YtianmmonkllhpaaDoorK3
import Derived.Deep.DeepCutAuto
import Derived.BigQuiet
import Derived.Deep.RegionWith
namespace Go.Proofs.YtianmmonkllhpaaDoor.DX
open Go.RowKit
open Go.Proofs.YtianmmonkllhpaaDoor.C0 Go.Proofs.YtianmmonkllhpaaDoor.D0 Go.Proofs.YtianmmonkllhpaaDoor.HB Go.Proofs.YtianmmonkllhpaaDoor.DS
def Spoilt (B p n : Nat) (v : Value) (w : World) (k : Nat) (e : Ending) (w' : World) : Prop :=
  ∃ u : ByteArray, e = .returned (.string u) ∧ u.size ≤ k + 1 ∧ Dr B p n v w' ∧ w.grownBy w' (some p)
theorem conv1 (W : World) (b : UInt8) : (convert 22 9 (.slice (some ⟨W.heap.size, 0, none⟩) 1 1)).run Tryd.prog (W.alloc (.cells #[.int .u8 (b.toNat : Int)] 5)) = .ok (.string ⟨#[b]⟩) (W.alloc (.cells #[.int .u8 (b.toNat : Int)] 5)) :=
  conv_own (base := W.heap.size) (l := [b]) (World.ownsRow_lit W #[.int .u8 (b.toNat : Int)] 1 (Nat.le_refl _) (by decide) rfl)
theorem Spoilt.of {B p n k : Nat} {v : Value} {w w' : World} {u : ByteArray} (hu : u.size ≤ k + 1) (hd : Dr B p n v w') (ht : w.grownBy w' (some p)) : Spoilt B p n v w k (.returned (.string u)) w' := ⟨u, rfl, hu, hd, ht⟩
set_option maxRecDepth 100000 in
set_option maxHeartbeats 1600000 in
theorem spoil_any (B p n : Nat) (v : Value) (t : ByteArray) (w : World) (h : Dr B p n v w) (ht : t.size ≤ 1000) :
    Calls Tryd.prog 36 #[.pointer (some ⟨p, 0, none⟩), .string t] w fun e w' => Spoilt B p n v w t.size e w' := by
  go_enter Tryd.func36, Tryd.ntmps36
  go_wp2_with fail
  refine (drawN ((t.size : Int) + 1) h (by omega) (by omega)).mono ?_
  rintro e w1 ⟨r, rfl, hr, d1, t1⟩
  have hr' : r ≤ t.size := by omega
  go_wp2_with fail
  refine (drawN 17 d1 (by omega) (by omega)).mono ?_
  rintro e w2 ⟨q, rfl, hq, d2, t2⟩
  have hq' : q < 17 := by omega
  have hc := conv1 w2
  have u2 : ∀ b : UInt8, w.grownBy (w2.alloc (.cells #[.int .u8 (b.toNat : Int)] 5)) (some p) := fun b => grown_trans (grown_trans t1 t2) (World.grownBy_alloc w2 _ _)
  have d3 : ∀ b : UInt8, Dr B p n v (w2.alloc (.cells #[.int .u8 (b.toNat : Int)] 5)) := fun b => d2.below (albel w2 _)
  have S1 : ∀ b : UInt8, (⟨#[b]⟩ : ByteArray).size = 1 := fun b => rfl
  have hri : (r : Int) ≤ (t.size : Int) := by omega
  clear d1 d2 t1 t2
  by_cases he : r = t.size
  · subst he
    go_wp2
    go_region
    all_goals
      go_wp2
      go_ret
      exact Spoilt.of (by simp only [ByteArray.size_append, S1]; omega) ((d3 _).drew) (grown_drew (u2 _))
  have he' : ((r : Int) == (t.size : Int)) = false := by rw [beq_eq_false_iff_ne]; omega
  have hrl : r + 1 ≤ t.size := by omega
  have hrl' : (r : Int) + 1 ≤ (t.size : Int) := by omega
  have hw : IntKind.i64.wrap ((r : Int) + 1) = (r : Int) + 1 := by rw [IntKind.wrap_i64]; omega
  have hrn : ((r : Int) + 1).toNat = r + 1 := by omega
  go_wp2_with fail
  refine (drawOne 3 (d3 _) (by omega) (by omega)).mono ?_
  rintro e w4 ⟨b1, rfl, d4, t4⟩
  have u4 := grown_trans (u2 _) t4
  clear d3 u2 t4
  cases b1
  case true =>
    go_wp2
    go_region
    all_goals
      go_wp2
      go_ret
      exact Spoilt.of (by simp only [ByteArray.size_append, ByteArray.size_extract, S1]; omega) (d4.drew) (grown_drew u4)
  go_wp2_with fail
  refine (drawOne 2 d4 (by omega) (by omega)).mono ?_
  rintro e w5 ⟨b2, rfl, d5, t5⟩
  have u5 := grown_trans u4 t5
  clear d4 u4 t5
  cases b2
  case true =>
    go_wp2
    go_region
    all_goals
      go_wp2
      go_ret
      exact Spoilt.of (by simp only [ByteArray.size_append, ByteArray.size_extract]; omega) (d5.drew) (grown_drew u5)
  go_wp2
  go_region
  all_goals
    go_wp2
    go_ret
    exact Spoilt.of (by simp only [ByteArray.size_append, ByteArray.size_extract, S1]; omega) (d5.drew) (grown_drew u5)
set_option maxRecDepth 100000 in
theorem el_draw {B p n : Nat} {v : Value} {w : World} (h : Dr B p n v w) :
    Calls Tryd.prog 37 #[.pointer (some ⟨p, 0, none⟩)] w fun e w' => ∃ z : Int, e = .returned (.int .i64 z) ∧ -1 ≤ z ∧ z ≤ 256 ∧ Dr B p n v w' ∧ w.grownBy w' (some p) := by
  go_enter Tryd.func37, Tryd.ntmps37
  go_wp2_with fail
  refine (drawOne 20 h (by omega) (by omega)).mono ?_
  rintro e w1 ⟨b, rfl, h1, g1⟩
  cases b with
  | true =>
    go_wp2_with fail
    refine (drawN 3 (h1.alloc _) (by omega) (by omega)).mono ?_
    rintro e w2 ⟨r, rfl, hr, h2, g2⟩
    obtain ⟨z, hz, z1, z2⟩ := lit_get [-1, 255, 256] (-1) 256 (by decide) r (by simp; omega)
    have hcell := (lit_kept g2 h1.lt r).trans hz
    have G := grown_trans g1 (grown_trans (World.grownBy_alloc w1 _ _) g2)
    clear g1 g2 hz
    go_wp2
    go_ret
    exact ⟨z, rfl, z1, z2, h2, G⟩
  | false =>
    go_wp2_with fail
    refine (drawN 256 h1 (by omega) (by omega)).mono ?_
    rintro e w2 ⟨r, rfl, hr, h2, g2⟩
    go_wp2
    go_ret
    exact ⟨_, rfl, by omega, by omega, h2, grown_trans g1 g2⟩
theorem mul_draw (v : Value) (n : Nat) (w : World) (hc : IsCode w.heap.size w v n) :
    Calls Tryd.prog 8 #[v] w fun e w' => ∃ a b : Int, e = .returned (.tuple #[.int .i64 a, .int .i64 b]) ∧ Below w.heap.size w w' := by
  go_enter Tryd.func8, Tryd.ntmps8
  go_wp2_with fail
  refine (drawSource v n _ hc).mono ?_
  rintro e w1 ⟨rfl, d1, b1⟩
  go_wp2_with fail
  refine (el_draw d1).mono ?_
  rintro e w2 ⟨a, rfl, -, -, d2, g2⟩
  go_wp2_with fail
  refine (el_draw d2).mono ?_
  rintro e w3 ⟨b, rfl, -, -, d3, g3⟩
  have z0 := b1.size
  go_wp2
  go_ret2
  exact ⟨a, b, rfl, b1.trans (grown_below (grown_trans g2 g3) (Nat.le_refl _) z0)⟩
theorem inv_draw (v : Value) (n : Nat) (w : World) (hc : IsCode w.heap.size w v n) :
    Calls Tryd.prog 9 #[v] w fun e w' => ∃ a : Int, e = .returned (.int .i64 a) ∧ -1 ≤ a ∧ a ≤ 256 ∧ Below w.heap.size w w' := by
  go_enter Tryd.func9, Tryd.ntmps9
  go_wp2_with fail
  refine (drawSource v n _ hc).mono ?_
  rintro e w1 ⟨rfl, d1, b1⟩
  go_wp2_with fail
  refine (el_draw d1).mono ?_
  rintro e w2 ⟨a, rfl, a1, a2, d2, g2⟩
  have z0 := b1.size
  go_wp2
  go_ret
  exact ⟨a, rfl, a1, a2, b1.trans (grown_below g2 (Nat.le_refl _) z0)⟩
/-- A text of so many bytes 0. -/
def zeros (k : Nat) : ByteArray := ⟨(List.replicate k (0 : UInt8)).toArray⟩
theorem zeros_size (k : Nat) : (zeros k).size = k := by simp [zeros, ByteArray.size]
theorem conv_zeros (W : World) (k : Nat) : (convert 22 9 (.slice (some ⟨W.heap.size, 0, none⟩) k k)).run Tryd.prog (W.alloc (.cells (madeCells #[.int .u8 0] k) 5)) = .ok (.string (zeros k)) (W.alloc (.cells (madeCells #[.int .u8 0] k) 5)) := by
  have h := World.rowIs_made W (.int .u8 0) k 5
  have hl : (List.replicate k (0 : UInt8)).length = k := List.length_replicate
  have := run_convert_bytes_back (P := Tryd.prog) (W.alloc (.cells (madeCells #[.int .u8 0] k) 5)) 22 9 5 ⟨W.heap.size, 0, none⟩ k (List.replicate k (0 : UInt8)) Tryd.underlying22 Tryd.underlying5 Tryd.underlying9 (fun j hj => by
    have ha : (⟨W.heap.size, 0, none⟩ : Addr).add j = ⟨W.heap.size, j, none⟩ := by unfold Addr.add; split <;> simp_all
    rw [ha, h.cell (by omega)]
    simp)
  rw [hl] at this
  exact this
set_option maxRecDepth 100000 in
theorem secret_draw {B p n : Nat} {v : Value} {w : World} (h : Dr B p n v w) :
    Calls Tryd.prog 26 #[.pointer (some ⟨p, 0, none⟩)] w fun e w' => ∃ t : ByteArray, e = .returned (.string t) ∧ t.size ≤ 17 ∧ Dr B p n v w' ∧ w.grownBy w' (some p) := by
  go_enter Tryd.func26, Tryd.ntmps26
  go_wp2_with fail
  refine (drawOne 20 h (by omega) (by omega)).mono ?_
  rintro e w1 ⟨b, rfl, h1, g1⟩
  cases b with
  | true =>
    go_wp2_with fail
    refine (drawN 3 (h1.alloc _) (by omega) (by omega)).mono ?_
    rintro e w2 ⟨r, rfl, hr, h2, g2⟩
    obtain ⟨z, hz, z1, z2⟩ := lit_get [0, 16, 17] 0 17 (by decide) r (by simp; omega)
    have hcell := (lit_kept g2 h1.lt r).trans hz
    obtain ⟨k, rfl⟩ := Int.eq_ofNat_of_zero_le z1
    have hmk := run_make_row' (P := Tryd.prog) 22 5 (.int .u8 0) 1 Tryd.underlying22 info_u8 rfl .i64 .i64 k (by omega) (by omega)
    have hcv := conv_zeros w2 k
    have G := grown_trans g1 (grown_trans (World.grownBy_alloc w1 _ _) (grown_trans g2 (World.grownBy_alloc w2 (.cells (madeCells #[.int .u8 0] k) 5) _)))
    have D2 := h2.alloc (.cells (madeCells #[.int .u8 0] k) 5)
    clear g1 g2 hz
    go_wp2
    go_ret
    exact ⟨zeros k, rfl, by rw [zeros_size]; omega, D2, G⟩
  | false =>
    go_wp2_with fail
    refine (drawN 8 h1 (by omega) (by omega)).mono ?_
    rintro e w2 ⟨r, rfl, hr, h2, g2⟩
    go_wp2_with fail
    refine (drawBytes r h2 (by omega)).mono ?_
    rintro e w3 ⟨t, rfl, ht, h3, g3⟩
    have hsz : ((⟨#[109]⟩ : ByteArray) ++ t).size ≤ 17 := by
      have h1 : (⟨#[109]⟩ : ByteArray).size = 1 := rfl
      rw [ByteArray.size_append, h1]; omega
    have G := grown_trans (grown_trans g1 g2) g3
    clear g1 g2 g3
    go_wp2
    go_ret
    exact ⟨_, rfl, hsz, h3, G⟩
theorem kept2 {w w2 : World} {a b : Value} {T : TypeId} (hb : Below (w.heap.size + 1) (w.alloc (.cells #[a, b] T)) w2) :
    w2.cell? ⟨w.heap.size, 0, none⟩ = some a ∧ w2.cell? ⟨w.heap.size, 1, none⟩ = some b ∧ (∀ o, w2.frozen? ⟨w.heap.size, o, none⟩ = false) ∧ w.heap.size < w2.heap.size := by
  refine ⟨?_, ?_, fun o => ?_, ?_⟩
  · rw [hb.cell (p := ⟨w.heap.size, 0, none⟩) (Nat.lt_succ_self _)]; simp [go_sem]
  · rw [hb.cell (p := ⟨w.heap.size, 1, none⟩) (Nat.lt_succ_self _)]; simp [go_sem]
  · rw [hb.frozen (p := ⟨w.heap.size, o, none⟩) (Nat.lt_succ_self _)]; simp [go_sem]
  · have := hb.size; simp at this; omega
def share (i : Int) (d : ByteArray) : Value := .agg #[.int .i64 i, .string d]
set_option maxRecDepth 100000 in
theorem right_draw (v : Value) (n : Nat) (w : World) (hc : IsCode w.heap.size w v n) :
    Calls Tryd.prog 10 #[v] w fun e w' => ∃ (i : Int) (d : ByteArray), e = .returned (share i d) ∧ d.size ≤ 17 ∧ Below w.heap.size w w' := by
  go_enter Tryd.func10, Tryd.ntmps10
  go_wp2_with fail
  refine (sourceA v n w _ hc).mono ?_
  rintro e w1 ⟨rfl, d1, b1⟩
  go_wp2_with fail
  refine (drawN 9 d1 (by omega) (by omega)).mono ?_
  rintro e w2 ⟨q, rfl, hq, d2, g2⟩
  go_wp2_with fail
  refine (drawN 5 (d2.alloc _) (by omega) (by omega)).mono ?_
  rintro e w3 ⟨r, rfl, hr, d3, g3⟩
  obtain ⟨z, hz, y1, y2⟩ := lit_get [0, 1, 5, 16, 17] 0 17 (by decide) r (by simp; omega)
  have hcell := (lit_kept g3 d2.lt r).trans hz
  obtain ⟨k, rfl⟩ := Int.eq_ofNat_of_zero_le y1
  have hmk := run_make_row' (P := Tryd.prog) 22 5 (.int .u8 0) 1 Tryd.underlying22 info_u8 rfl .i64 .i64 k (by omega) (by omega)
  have hcv := conv_zeros w3 k
  have z1 := b1.size
  rw [asz] at z1
  have G := grown_trans g2 (grown_trans (World.grownBy_alloc w2 (.cells #[.int .i64 0, .int .i64 1, .int .i64 5, .int .i64 16, .int .i64 17] 2) _) (grown_trans g3 (World.grownBy_alloc w3 (.cells (madeCells #[.int .u8 0] k) 5) _)))
  have B : Below (w.heap.size + 1) (w.alloc (.cells #[.int .i64 0, .string ⟨#[]⟩] 33)) (w3.alloc (.cells (madeCells #[.int .u8 0] k) 5)) := b1.trans (grown_below G (Nat.le_refl _) z1)
  obtain ⟨c0, c1, cf, hz3⟩ := kept2 B
  have HW : Hid (Below w.heap.size w (w3.alloc (.cells (madeCells #[.int .u8 0] k) 5))) := (albel w _).trans (B.mono (Nat.le_succ _))
  have hk : (zeros k).size ≤ 17 := by rw [zeros_size]; omega
  obtain ⟨zt, hzt⟩ : ∃ t, zeros k = t := ⟨_, rfl⟩
  rw [hzt] at hcv hk
  clear B b1 g2 g3 G d1 d2 d3 hz hzt
  have hi : IntKind.i64.wrap ((q : Int) - 1) = (q : Int) - 1 := by rw [IntKind.wrap_i64]; omega
  go_wp2
  exact bodyPost_ret (v := share ((q : Int) - 1) zt) (by simp [results, Tryd.results10, go_sem, share, c0, c1]) rfl ⟨_, zt, rfl, hk, (HW.out.setCell (by simp) _).setCell (by simp) _⟩
end Go.Proofs.YtianmmonkllhpaaDoor.DX
