/-
  What is joined of right shares, in the specification.
-/
import Derived.Test.YtianmmonkllhpaaDoorJ1
import Derived.Test.YtianmmonkllhpaaDoorSH
import Derived.Test.YtianmmonkllhpaaDoorK3
import Derived.Deep.RegionHeld3
import Derived.Deep.RegionWith
import Derived.Deep.OwnRows
namespace Go.Proofs.YtianmmonkllhpaaDoor.J2
open Go.RowKit
open Go.Proofs.YtianmmonkllhpaaDoor.C0 Go.Proofs.YtianmmonkllhpaaDoor.HB
open Go.Proofs.YtianmmonkllhpaaDoor.SH (Sh Shares)
open Go.Proofs.YtianmmonkllhpaaDoor.K3 (byt bytesOf)
open Go.Proofs.YtianmmonkllhpaaDoor.J0 (xor_i64)

/-- The places of shares, and a byte of one. -/
def ix (l : List Sh) (i : Nat) : Nat := ((l.getD i (0, ⟨#[]⟩)).1).toNat
def dat (l : List Sh) (j i : Nat) : Nat := ((bytesOf (l.getD i (0, ⟨#[]⟩)).2).getD j 0).toNat
def xsOf (l : List Sh) (need : Nat) : List Nat := (List.range need).map (ix l)
def wt (l : List Sh) (need i : Nat) : Nat := Gf.wUp (xsOf l need) i need
def joinL (need n : Nat) (l : List Sh) : List UInt8 := (List.range n).map fun j => UInt8.ofNat (Gf.jUp (wt l need) (dat l j) need)
/-- Shares that can be joined. -/
structure Fine (need n : Nat) (l : List Sh) : Prop where
  n6 : need ≤ 6
  n1 : 1 ≤ need
  len : need ≤ l.length
  l1 : 1 ≤ n
  l16 : n ≤ 16
  each : ∀ p ∈ l, 1 ≤ p.1 ∧ p.1 ≤ 6 ∧ p.2.size = n
theorem wUp_lt (xs : List Nat) (i : Nat) : ∀ k, Gf.wUp xs i k < 256
  | 0 => by simp [Gf.wUp]
  | k + 1 => by
    unfold Gf.wUp
    split
    · exact wUp_lt xs i k
    · exact Gf.mul_lt _ (wUp_lt xs i k)
theorem wt_lt (l : List Sh) (need i : Nat) : wt l need i < 256 := wUp_lt _ _ _
theorem wUp_same (xs : List Nat) (i : Nat) : Gf.wUp xs i (i + 1) = Gf.wUp xs i i := by
  conv => lhs; unfold Gf.wUp
  rw [if_pos rfl]
theorem wUp_next (xs : List Nat) (i k : Nat) (h : ¬ k = i) : Gf.wUp xs i (k + 1) = Gf.mul (Gf.wUp xs i k) (Gf.mul (xs.getD k 0) (Gf.inv (xs.getD i 0 ^^^ xs.getD k 0))) := by
  conv => lhs; unfold Gf.wUp
  rw [if_neg h]
theorem xs_at (l : List Sh) (need i : Nat) (h : i < need) : (xsOf l need).getD i 0 = ix l i := by simp [xsOf, h]
theorem dat_lt (l : List Sh) (j i : Nat) : dat l j i < 256 := UInt8.toNat_lt _
/-- What a place holds. -/
theorem at_get {l : List Sh} {need n i : Nat} (hf : Fine need n l) (hi : i < need) : ∃ d : ByteArray, l[i]? = some (((ix l i : Nat) : Int), d) ∧ ix l i < 8 ∧ 1 ≤ ix l i ∧ d.size = n ∧ ∀ j (h : j < d.size), (d[j]'h).toNat = dat l j i := by
  have hlen := hf.len
  have hil : i < l.length := by omega
  have hm := hf.each l[i] (List.getElem_mem _)
  have e : ix l i = l[i].1.toNat := by unfold ix; simp [hil]
  refine ⟨l[i].2, ?_, by omega, by omega, hm.2.2, fun j h => ?_⟩
  · rw [List.getElem?_eq_getElem hil, e, Int.toNat_of_nonneg (by omega)]
  · unfold dat
    have hb : j < (bytesOf l[i].2).length := by simpa using h
    simp [hil]
    rw [Array.getElem?_eq_getElem (by simpa using hb)]
    rfl

/-- What the bytes hold when so many shares are in. -/
def RowI (l : List Sh) (need n : Nat) (w : World) (k : Nat) (x : World) : Prop :=
  ∃ f, x.rowIs w.heap.size 5 n f ∧ (∀ j, j < n → f j = byt (Gf.jUp (wt l need) (dat l j) k)) ∧ Below w.heap.size w x
/-- And when so many bytes of the next one are in. -/
def RowP (l : List Sh) (need n : Nat) (w : World) (k m : Nat) (x : World) : Prop :=
  ∃ f, x.rowIs w.heap.size 5 n f ∧ (∀ j, j < m → f j = byt (Gf.jUp (wt l need) (dat l j) (k + 1))) ∧ (∀ j, m ≤ j → j < n → f j = byt (Gf.jUp (wt l need) (dat l j) k)) ∧ Below w.heap.size w x
theorem RowI.drewN {l : List Sh} {need n k : Nat} {w x : World} (h : RowI l need n w k x) (q : Nat) : RowI l need n w k (x.drewN q) := by
  obtain ⟨f, h1, h2, h3⟩ := h
  exact ⟨f, h1, h2, ⟨h3.os, h3.tape, h3.output, h3.size, h3.block⟩⟩
theorem RowI.drew {l : List Sh} {need n k : Nat} {w x : World} (h : RowI l need n w k x) : RowI l need n w k x.drew := h.drewN 1
theorem RowI.start {l : List Sh} {need n k : Nat} {w x : World} (h : RowI l need n w k x) : RowP l need n w k 0 x := by
  obtain ⟨f, h1, h2, h3⟩ := h
  exact ⟨f, h1, fun j hj => by omega, fun j _ hj => h2 j hj, h3⟩
theorem RowP.stop {l : List Sh} {need n k : Nat} {w x : World} (h : RowP l need n w k n x) : RowI l need n w (k + 1) x := by
  obtain ⟨f, h1, h2, _, h3⟩ := h
  exact ⟨f, h1, fun j hj => h2 j hj, h3⟩
theorem RowP.drew {l : List Sh} {need n k m : Nat} {w x : World} (h : RowP l need n w k m x) : RowP l need n w k m x.drew := by
  obtain ⟨f, h1, h2, h3, h4⟩ := h
  exact ⟨f, h1, h2, h3, h4.drew⟩
theorem RowP.step {l : List Sh} {need n k m : Nat} {w x : World} (h : RowP l need n w k m x) :
    RowP l need n w k (m + 1) (x.setCell ⟨w.heap.size, m, none⟩ (byt (Gf.jUp (wt l need) (dat l m) k ^^^ Gf.mul (wt l need k) (dat l m k)))) := by
  obtain ⟨f, h1, h2, h3, h4⟩ := h
  refine ⟨_, h1.set _ _, fun j hj => ?_, fun j hj hn => ?_, h4.setCell (Nat.le_refl _) _⟩
  · show (if j = m then _ else f j) = _
    by_cases e : j = m
    · rw [if_pos e, e]; rfl
    · rw [if_neg e]; exact h2 j (by omega)
  · show (if j = m then _ else f j) = _
    rw [if_neg (by omega)]; exact h3 j (by omega) hn

theorem conv_row {l : List Sh} {need n : Nat} {w x : World} (h : RowI l need n w need x) :
    (convert 22 9 (.slice (some ⟨w.heap.size, 0, none⟩) n n)).run Tryd.prog x = .ok (.string ⟨(joinL need n l).toArray⟩) x := by
  obtain ⟨f, h1, h2, _⟩ := h
  have hl : (joinL need n l).length = n := by simp [joinL]
  have := run_convert_bytes_back (P := Tryd.prog) x 22 9 5 ⟨w.heap.size, 0, none⟩ n (joinL need n l) Tryd.underlying22 Tryd.underlying5 Tryd.underlying9 (fun j hj => by
    have ha : (⟨w.heap.size, 0, none⟩ : Addr).add j = ⟨w.heap.size, j, none⟩ := by unfold Addr.add; split <;> simp_all
    have hj' : j < n := by omega
    rw [ha, h1.cell hj', h2 j hj']
    have := Gf.jUp_lt (ws := wt l need) (wt_lt l need) (dat l j) need
    simp [joinL, UInt8.toNat_ofNat']
    omega)
  rw [hl] at this
  exact this
set_option maxRecDepth 100000 in
set_option maxHeartbeats 1600000 in
theorem join_spec (need n : Nat) (v : Value) (l : List Sh) (w : World) (hv : Shares w v l) (hf : Fine need n l) :
    Calls Tryd.prog 45 #[.int .i64 need, v] w fun e w' => e = .returned (.string ⟨(joinL need n l).toArray⟩) ∧ Below w.heap.size w w' := by
  obtain ⟨a, cap, rfl, hl, hc⟩ := hv
  obtain ⟨b, off, rfl, hb, hcc⟩ := hc (by have := hf.len; have := hf.n1; omega)
  have hn6 := hf.n6
  have hn1 := hf.n1
  have hlen := hf.len
  have hl1 := hf.l1
  have hl16 := hf.l16
  obtain ⟨d0, hd0, -, -, hs0, -⟩ := at_get hf (show 0 < need by omega)
  have hcell0 := (hcc 0 _ hd0).2
  simp only [Nat.zero_mul, Nat.add_zero] at hcell0
  have hi0 : (0 : Int) < (l.length : Int) := by omega
  have hmk := run_make_row' (P := Tryd.prog) 22 5 (.int .u8 0) 1 Tryd.underlying22 info_u8 rfl .i64 .i64 n (by omega) (by omega)
  have hrow := World.rowIs_made w (.int .u8 0) n 5
  have H0 : Hid (RowI l need n w 0 (w.alloc (.cells (madeCells #[Value.int .u8 0] n) 5))) := ⟨_, hrow, fun j hj => rfl, albel w _⟩
  clear hrow
  unfold maxLen at hl
  go_enter Tryd.func45, Tryd.ntmps45
  go_wp2_with fail
  clear hmk hc hd0 hs0 hcell0
  go_loopw [6] (fun i x => ∃ k, k ≤ need ∧ i = .int .i64 (k : Nat) ∧ RowI l need n w k x) (fun i _ => need - (intOf i).toNat)
  case atStart => exact ⟨0, by omega, rfl, H0.out⟩
  case round =>
    clear H0
    obtain ⟨k, hk, rfl, hR⟩ := hrel
    have HR : Hid (RowI l need n w k wr) := hR
    by_cases hlt : k < need
    · have hlt' : (k : Int) < (need : Int) := by omega
      obtain ⟨d, hd, x8, x1, hds, hdat⟩ := at_get hf hlt
      have hci := hcc k _ hd
      dsimp only at hci
      have hkl : (k : Int) < (l.length : Int) := by omega
      go_wp2_with fail
      go_loopw [7, 8] (fun v i x => ∃ q, q ≤ need ∧ i = .int .i64 (q : Nat) ∧ v = .int .i64 (Gf.wUp (xsOf l need) k q : Nat) ∧ RowI l need n w k x) (fun _ i _ => need - (intOf i).toNat)
      case atStart => exact ⟨0, by omega, rfl, rfl, HR.out⟩
      case round =>
        obtain ⟨q, hq, rfl, rfl, hR2⟩ := hrel
        have HR2 : Hid (RowI l need n w k wr) := hR2
        have hwl := wUp_lt (xsOf l need) k q
        by_cases hqt : q < need
        · have hqt' : (q : Int) < (need : Int) := by omega
          by_cases hqk : q = k
          · have hqk' : ((q : Int) != (k : Int)) = false := by simp; omega
            have HW : Hid (Gf.wUp (xsOf l need) k (q + 1) = Gf.wUp (xsOf l need) k q) := by subst hqk; exact wUp_same _ _
            clear hqk
            go_wp2
            go_roundw
            case rel => exact ⟨q + 1, by omega, by go_num, by rw [HW.out], HR2.out⟩
            case measure => simp [intOf]; omega
          · have hqk' : ((q : Int) != (k : Int)) = true := by simp; omega
            obtain ⟨e, he, y8, y1, hes, -⟩ := at_get hf hqt
            have hcq := hcc q _ he
            dsimp only at hcq
            have hql : (q : Int) < (l.length : Int) := by omega
            have HW : Hid (Gf.wUp (xsOf l need) k (q + 1) = Gf.mul (Gf.wUp (xsOf l need) k q) (Gf.mul (ix l q) (Gf.inv (ix l k ^^^ ix l q)))) := by
              unfold Hid; rw [wUp_next _ _ _ hqk, xs_at l need q hqt, xs_at l need k hlt]
            have hx := xor_i64 (ix l k) (ix l q) (by omega) (by omega)
            have g1 : ix l k ^^^ ix l q < 256 := Gf.xor_lt (by omega) (by omega)
            have g2 : ix l q < 256 := by omega
            have g3 : Gf.inv (ix l k ^^^ ix l q) < 256 := Gf.inv_lt _ g1
            have g4 : Gf.mul (ix l q) (Gf.inv (ix l k ^^^ ix l q)) < 256 := Gf.mul_lt _ g2
            have KF : Hid (∀ y, Below w.heap.size w y → y.cell? ⟨b, off + q * 2, none⟩ = some (.int .i64 (ix l q : Nat)) ∧ y.cell? ⟨b, off + k * 2, none⟩ = some (.int .i64 (ix l k : Nat))) := fun y hy =>
              ⟨(hy.cell (p := ⟨b, off + q * 2, none⟩) hb).trans hcq.1, (hy.cell (p := ⟨b, off + k * 2, none⟩) hb).trans hci.1⟩
            have HB : Hid (Below w.heap.size w wr) := hR2.choose_spec.2.2
            generalize Gf.wUp (xsOf l need) k q = wq at *
            have CM : Hid (∀ a c W, a < 256 → c < 256 → Calls Tryd.prog 49 #[.int .i64 (a : Nat), .int .i64 (c : Nat)] W fun e w' => e = .returned (.int .i64 (Gf.mul a c : Nat)) ∧ W = w') := fun a c W h1 h2 => J0.mul_spec a c W h1 h2
            have CI : Hid (∀ a W, a < 256 → Calls Tryd.prog 52 #[.int .i64 (a : Nat)] W fun e w' => e = .returned (.int .i64 (Gf.inv a : Nat)) ∧ W = w') := fun a W h => J0.inv_spec a W h
            clear hqk hcq hR hR2 hdat hd he hcc hci hf
            generalize Gf.mul = M at *
            generalize Gf.inv = I at *
            generalize ix l q = iq at *
            generalize ix l k = ik at *
            go_wp2_with fail
            go_region_held3 (fun y => y.cell? ⟨b, off + q * 2, none⟩ = some (.int .i64 (iq : Nat)) ∧ y.cell? ⟨b, off + k * 2, none⟩ = some (.int .i64 (ik : Nat)))
              (first
                | with_reducible exact KF.out _ HB.out
                | with_reducible exact KF.out _ HB.out.drew)
              (first
                | (go_at_call 52
                   refine (CI.out _ _ (by assumption)).mono ?_
                   rintro e xn ⟨rfl, rfl⟩)
                | (go_at_call 49
                   refine (CM.out _ _ _ (by assumption) (by assumption)).mono ?_
                   rintro e xn ⟨rfl, rfl⟩))
            go_wp2
            go_roundw
            case rel => exact ⟨q + 1, by omega, by go_num, by rw [HW.out], HR2.out.drew⟩
            case measure => simp [intOf]; omega
        · obtain rfl : q = need := by omega
          have hwk : Hid (Gf.wUp (xsOf l q) k q = wt l q k) := rfl
          have hwl2 := wt_lt l q k
          rw [hwk.out]
          generalize hgw : wt l q k = wk at *
          have HGW : Hid (wt l q k = wk) := hgw
          clear hgw hwk hwl
          go_wp2_with fail
          go_loopw [9] (fun i x => ∃ m, m ≤ n ∧ i = .int .i64 (m : Nat) ∧ RowP l q n w k m x) (fun i _ => n - (intOf i).toNat)
          case atStart => exact ⟨0, by omega, rfl, HR2.out.start⟩
          case round =>
            obtain ⟨m, hm, rfl, hP⟩ := hrel
            have HP : Hid (RowP l q n w k m wr) := hP
            by_cases hmt : m < n
            · have hmn : (m : Int) < (n : Int) := by omega
              obtain ⟨f, f1, f2, f3, f4⟩ := hP
              have hcell : wr.cell? ⟨w.heap.size, m, none⟩ = some (byt (Gf.jUp (wt l q) (dat l m) k)) := (f1.cell hmt).trans (by rw [f3 m (Nat.le_refl _) hmt])
              have hfr := f1.frozen m
              have hci2 : wr.cell? ⟨b, off + k * 2 + 1, none⟩ = some (.string d) := (f4.cell (p := ⟨b, off + k * 2 + 1, none⟩) hb).trans hci.2
              have hdm := hdat m (by omega)
              have hmd : m < d.size := by omega
              have hjl := Gf.jUp_lt (ws := wt l q) (wt_lt l q) (dat l m) k
              have hdl := dat_lt l m k
              have hST : Hid (∀ x, RowP l q n w k m x → RowP l q n w k (m + 1) (x.setCell ⟨w.heap.size, m, none⟩ (byt (Gf.jUp (wt l q) (dat l m) k ^^^ Gf.mul (wt l q k) (dat l m k))))) := fun x h => h.step
              have hml : Gf.mul wk (dat l m k) < 256 := Gf.mul_lt _ hwl2
              have hwr : IntKind.u8.wrap ((Gf.mul wk (dat l m k) : Nat) : Int) = ((Gf.mul wk (dat l m k) : Nat) : Int) := by rw [IntKind.wrap_u8]; omega
              have hxr := u8_xor_nat (Gf.jUp (wt l q) (dat l m) k) (Gf.mul wk (dat l m k)) hjl hml
              have CM : Hid (∀ a c W, a < 256 → c < 256 → Calls Tryd.prog 49 #[.int .i64 (a : Nat), .int .i64 (c : Nat)] W fun e w' => e = .returned (.int .i64 (Gf.mul a c : Nat)) ∧ W = w') := fun a c W h1 h2 => J0.mul_spec a c W h1 h2
              rw [HGW.out] at hST
              have hw64 : IntKind.i64.wrap ((dat l m k : Nat) : Int) = ((dat l m k : Nat) : Int) := by rw [IntKind.wrap_i64]; omega
              clear hcc hci hf f1 f2 f3 f4 hdat hd
              generalize Gf.mul = M at *
              generalize Gf.jUp (wt l q) (dat l m) k = jj at *
              generalize dat l m k = dk at *
              go_wp2_with fail
              go_region_with (first
                | (go_at_call 49; refine (CM.out _ _ _ (by assumption) (by assumption)).mono ?_; rintro e xn ⟨rfl, rfl⟩))
              all_goals
                go_wp2
                go_roundw
                case rel => exact ⟨m + 1, by omega, by go_num, (hST.out _ HP.out).drew⟩
                case measure => simp [intOf]; omega
            · obtain rfl : m = n := by omega
              clear hP
              go_wp2
              go_roundw
              case rel => exact ⟨k + 1, by omega, by go_num, HP.out.stop⟩
              case measure => simp [intOf]; omega
    · obtain rfl : k = need := by omega
      have hconv := conv_row hR
      have HB : Hid (Below w.heap.size w wr) := hR.choose_spec.2.2
      clear hR HR
      go_wp2
      go_ret
      exact ⟨rfl, HB.out⟩
end Go.Proofs.YtianmmonkllhpaaDoor.J2
