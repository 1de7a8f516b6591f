/-
  What is joined of whatever shares: in the program.
-/
import Derived.Test.YtianmmonkllhpaaDoorJ5
import Derived.Test.YtianmmonkllhpaaDoorL3
import Derived.OwnWalk
namespace Go.Proofs.YtianmmonkllhpaaDoor.L4
open Go.RowKit
open Go.Proofs.YtianmmonkllhpaaDoor.C0 Go.Proofs.YtianmmonkllhpaaDoor.HB Go.Proofs.YtianmmonkllhpaaDoor.NU
open Go.Proofs.YtianmmonkllhpaaDoor.SH (Sh Shares)
open Go.Proofs.YtianmmonkllhpaaDoor.J2 (ix dat xsOf wt joinL Fine wt_lt)
open Go.Proofs.YtianmmonkllhpaaDoor.J4 (at_)
open Go.Proofs.YtianmmonkllhpaaDoor.L2 (mayR)
open Go.Proofs.YtianmmonkllhpaaDoor.L3 (Gro one_num one_num')
open Go.Proofs.YtianmmonkllhpaaDoor.J5 (joinR mayR_fine)

theorem ix_take (l : List Sh) (m i : Nat) (h : i < m) : ix (l.take m) i = ix l i := by unfold ix; simp [h]
theorem dat_take (l : List Sh) (m j i : Nat) (h : i < m) : dat (l.take m) j i = dat l j i := by unfold dat; simp [h]
theorem xs_take (l : List Sh) (m : Nat) : xsOf (l.take m) m = xsOf l m := by
  unfold xsOf
  exact List.map_congr_left fun i hi => ix_take l m i (List.mem_range.1 hi)
theorem wt_take (l : List Sh) (m i : Nat) : wt (l.take m) m i = wt l m i := by unfold wt; rw [xs_take]
theorem jUp_congr (ws d e : Nat → Nat) : ∀ k, (∀ i, i < k → d i = e i) → Gf.jUp ws d k = Gf.jUp ws e k
  | 0, _ => rfl
  | k + 1, h => by unfold Gf.jUp; rw [jUp_congr ws d e k (fun i hi => h i (by omega)), h k (by omega)]
theorem join_take (l : List Sh) (m n : Nat) : joinL m n (l.take m) = joinL m n l := by
  unfold joinL
  refine List.map_congr_left fun j _ => ?_
  rw [show wt (l.take m) m = wt l m from funext fun i => wt_take l m i, jUp_congr _ _ (dat l j) m (fun i hi => dat_take l m j i hi)]
theorem fine_take {m n : Nat} {l : List Sh} (h : Fine m n l) : Fine m n (l.take m) ∧ (l.take m).length = m := by
  have hl : (l.take m).length = m := by rw [List.length_take]; have := h.len; omega
  exact ⟨⟨h.n6, h.n1, by rw [hl]; exact Nat.le_refl _, h.l1, h.l16, fun p hp => h.each p (List.mem_of_mem_take hp)⟩, hl⟩
theorem shares_take {w : World} {b off cap m : Nat} {l : List Sh} (hl : l.length ≤ maxLen) (hb : b < w.heap.size) (hm : m ≤ l.length)
    (hcc : ∀ i s, l[i]? = some s → w.cell? ⟨b, off + i * 2, none⟩ = some (.int .i64 s.1) ∧ w.cell? ⟨b, off + i * 2 + 1, none⟩ = some (.string s.2)) : Shares w (.slice (some ⟨b, off, none⟩) m cap) (l.take m) := by
  have hlt : (l.take m).length = m := by rw [List.length_take]; omega
  refine ⟨some ⟨b, off, none⟩, cap, by rw [hlt], by omega, fun _ => ⟨b, off, rfl, hb, fun i s hs => ?_⟩⟩
  have hi : i < m := by have := (List.getElem?_eq_some_iff.1 hs).1; omega
  rw [List.getElem?_take, if_pos hi] at hs
  exact hcc i s hs
def wl (l : List Sh) (m q : Nat) : List Nat := (List.range q).map (wt l m)
theorem wl_length (l : List Sh) (m q : Nat) : (wl l m q).length = q := by simp [wl]
theorem wl_succ (l : List Sh) (m q : Nat) : wl l m (q + 1) = wl l m q ++ [wt l m q] := by simp [wl, List.range_succ]
theorem wl_at (l : List Sh) (m q i : Nat) (h : i < q) : (wl l m q).getD i 0 = wt l m i := by simp [wl, h]
def jb (l : List Sh) (m q : Nat) : List UInt8 := (List.range q).map fun j => UInt8.ofNat (Gf.jUp (wt l m) (dat l j) m)
theorem jb_length (l : List Sh) (m q : Nat) : (jb l m q).length = q := by simp [jb]
theorem jb_succ (l : List Sh) (m q : Nat) : jb l m (q + 1) = jb l m q ++ [UInt8.ofNat (Gf.jUp (wt l m) (dat l q) m)] := by simp [jb, List.range_succ]
theorem byte_nat (x : Nat) (h : x < 256) : ((UInt8.ofNat x).toNat : Int) = (x : Int) := by simp [UInt8.toNat_ofNat']; omega
/-- What a row of bytes, of the call's own, is behind what was made. -/
structure GroB (B : Nat) (w : World) (t : Value) (l : List UInt8) (x : World) : Prop where
  own : owns B t l x
  bel : Below B w x
  size : B ≤ x.heap.size
theorem GroB.below {B : Nat} {w x y : World} {t : Value} {l : List UInt8} (h : GroB B w t l x) (hb : Below x.heap.size x y) : GroB B w t l y :=
  ⟨own_below h.own hb, h.bel.trans (hb.mono h.size), Nat.le_trans h.size hb.size⟩
theorem one_byte' (w : World) (m : Nat) (T : TypeId) : ∀ j u, [Value.int .u8 (m : Nat)][j]? = some u → (w.alloc (.cells #[.int .u8 (m : Nat)] T)).cell? ((⟨w.heap.size, 0, none⟩ : Addr).add j) = some u := fun j u hu => by
  have hj : j = 0 := by
    rcases Nat.eq_zero_or_pos j with h | h
    · exact h
    · rw [List.getElem?_eq_none (by simp; omega)] at hu; cases hu
  subst hj
  rw [NU.add0]
  simp at hu
  subst hu
  simp [go_sem]

set_option maxRecDepth 100000 in
set_option maxHeartbeats 3200000 in
theorem join_impl (need : Int) (a : Option Addr) (cap : Nat) (l : List Sh) (w : World) (hv : Shares w (.slice a l.length cap) l) (hcap : l.length ≤ cap) (hz : ∀ s ∈ l, s.2.size ≤ maxLen) :
    Calls Tryd.prog 13 #[.int .i64 need, .slice a l.length cap] w fun e w' => e = .returned (.string ⟨(joinR need l).toArray⟩) ∧ Below w.heap.size w w' := by
  have HD : Hid (joinR need l = if mayR need l = true then joinL need.toNat (at_ l 0).2.size l else []) := rfl
  have hmay := L2.may_impl need _ l w hv hz
  cases hmy : mayR need l with
  | false =>
    have HE : Hid (joinR need l = []) := by unfold Hid; rw [HD.out, hmy]; rfl
    rw [HE.out]
    rw [hmy] at hmay
    go_enter Tryd.func13, Tryd.ntmps13
    go_wp2_with fail
    refine hmay.mono ?_
    rintro e w1 ⟨rfl, hb1⟩
    go_wp2
    go_ret
    exact ⟨rfl, hb1⟩
  | true =>
    rw [hmy] at hmay
    obtain ⟨-, m, rfl, hf⟩ := mayR_fine hmy
    obtain ⟨hft, hlt⟩ := fine_take hf
    have HE : Hid (joinR (m : Nat) l = joinL m (at_ l 0).2.size (l.take m)) := by
      unfold Hid; rw [HD.out, hmy, if_pos rfl, join_take]; rfl
    rw [HE.out]
    have hm6 := hf.n6
    have hm1 := hf.n1
    have hml := hf.len
    obtain ⟨a', cap', hae, hl, hc⟩ := hv
    obtain ⟨rfl, -, rfl⟩ : a = a' ∧ l.length = l.length ∧ cap = cap' := by simpa using hae
    obtain ⟨b, off, rfl, hb, hcc⟩ := hc (by omega)
    have HV : Hid (∀ c W, Below w.heap.size w W → Shares W (.slice (some ⟨b, off, none⟩) m c) (l.take m)) := fun c W hW => (shares_take hl hb hml hcc).below hW
    clear hcc hc hae HE HD hmy
    have hcm : (m : Int) ≤ (cap : Int) := by omega
    generalize (at_ l 0).2.size = n at *
    obtain ⟨lu, hlu⟩ : ∃ x, l.take m = x := ⟨_, rfl⟩
    rw [hlu] at HV hft hlt ⊢
    clear hlu hf
    have HF : Hid (Fine m n lu ∧ lu.length = m) := ⟨hft, hlt⟩
    have HW0 : Hid (∀ W t, Gro w.heap.size w t (wl lu m 0) W ↔ Gro w.heap.size w t [] W) := fun _ _ => Iff.rfl
    clear hft hlt
    go_enter Tryd.func13, Tryd.ntmps13
    go_wp2_with fail
    refine hmay.mono ?_
    rintro e w1 ⟨rfl, hb1⟩
    have B1 : Hid (Below w.heap.size w w1) := hb1
    have HG0 : Hid (Gro w.heap.size w (.slice none 0 0) (wl lu m 0) w1) := ⟨ONums.nil _ _, hb1, hb1.size⟩
    clear hb1 hmay HW0
    go_wp2_with fail
    go_loopw [6, 20] (fun t i x => ∃ q : Nat, q ≤ m ∧ i = .int .i64 (q : Nat) ∧ Gro w.heap.size w t (wl lu m q) x) (fun _ i _ => m - (intOf i).toNat)
    case atStart => exact ⟨0, Nat.zero_le _, rfl, HG0.out⟩
    case round =>
      clear HG0
      obtain ⟨q, hq, rfl, hgro⟩ := hrel
      by_cases hqt : q < m
      · have hqi : (q : Int) < (m : Int) := by omega
        have HG : Hid (Gro w.heap.size w u6 (wl lu m q) wr) := hgro
        have HWT : Hid (∀ W, Below w.heap.size w W → Calls Tryd.prog 42 #[.slice (some ⟨b, off, none⟩) m m, .int .i64 (q : Nat)] W fun e w' => e = .returned (.int .i64 (wt lu m q : Nat)) ∧ Below W.heap.size W w') := fun W hW => L1.weight_impl m n q _ lu W (HV.out m W hW) HF.out.1 HF.out.2 hqt
        have HT : Hid (wl lu m (q + 1) = wl lu m q ++ [wt lu m q]) := wl_succ lu m q
        have HTn : Hid ((wl lu m q).length = q) := wl_length lu m q
        clear hgro
        generalize wt lu m q = wq at *
        generalize wl lu m q = L1 at *
        go_wp2_with fail
        refine (HWT.out _ HG.out.bel).mono ?_
        rintro e w2 ⟨rfl, hb2⟩
        have G2 : Hid (Gro w.heap.size w u6 L1 w2) := HG.out.below hb2
        have G3 : Hid (Gro w.heap.size w u6 L1 (w2.alloc (.cells #[.int .i64 (wq : Nat)] 2))) := G2.out.below (albel _ _)
        clear hb2
        go_wp2_with (first
          | (at_builtin; refine NU.list_app (by rfl) _ _ 48 2 (by rfl) w.heap.size (.int .i64 0) 1 8 Tryd.underlying48 NU.info_int (by rfl) (by decide) (by decide) u6 _ _ (by rfl) G3.out.own (by have := HTn.out; omega) ⟨w2.heap.size, 0, none⟩ 1 [.int .i64 (wq : Nat)] (by rfl) (by rfl) (one_num' _ _ _) (by simp [Value.oneCell']) G3.out.size ?_; intro gg cap1 xn hown1 hgrow hat hlt1))
        have HE : Hid (Gro w.heap.size w (.slice (some ⟨gg, 0, none⟩) (L1.length + 1) cap1) (wl lu m (q + 1)) xn) :=
          ⟨by rw [HT.out]; exact ONums.of hown1, grown_bel G3.out.bel G3.out.own hgrow G3.out.size, Nat.le_trans G3.out.size hgrow.size⟩
        clear hown1 hgrow hat hlt1
        go_wp2
        go_roundw
        case rel => exact ⟨q + 1, by omega, by go_num, HE.out⟩
        case measure => simp [intOf]; omega
      · obtain rfl : q = m := by omega
        obtain ⟨W0, hW0⟩ : ∃ x, x = wr := ⟨_, rfl⟩
        subst hW0
        have HN : Hid (Nums W0 u6 (wl lu q q)) := hgro.own.nums (by rw [wl_length]; omega)
        have HB : Hid (Below w.heap.size w W0) := hgro.bel
        have HV2 : Hid (∀ c W, Below W0.heap.size W0 W → Shares W (.slice (some ⟨b, off, none⟩) q c) lu) := fun c W hW => HV.out c W (HB.out.trans (hW.mono HB.out.size))
        have HBY : Hid (∀ j W, j < n → Below W0.heap.size W0 W → Calls Tryd.prog 43 #[.slice (some ⟨b, off, none⟩) q q, u6, .int .i64 (j : Nat)] W fun e w' => e = .returned (.int .u8 (Gf.jUp (wt lu q) (dat lu j) q : Nat)) ∧ Below W.heap.size W w') := fun j W hj hW =>
          L3.byte_impl q n j _ _ lu (wl lu q q) W (HV2.out _ W hW) (HN.out.below hW) HF.out.1 HF.out.2 (wl_length lu q q) (fun i hi => wl_at lu q q i hi) hj
        have HG0 : Hid (GroB W0.heap.size W0 (.slice none 0 0) (jb lu q 0) W0) := ⟨owns_nil _ _, Below.refl _ _, Nat.le_refl _⟩
        obtain ⟨d0, hd0, -, -, hds, -⟩ := J2.at_get HF.out.1 (show 0 < q by omega)
        obtain ⟨a9, cap9, he9, hl9, hc9⟩ := HV2.out q W0 (Below.refl _ _)
        obtain ⟨b9, off9, he8, -, hcc9⟩ := hc9 (by rw [HF.out.2]; omega)
        simp only [Value.slice.injEq] at he9
        obtain ⟨rfl, -, -⟩ := he9
        simp only [Option.some.injEq, Addr.mk.injEq] at he8
        obtain ⟨rfl, rfl, -⟩ := he8
        have hcell := (hcc9 0 _ hd0).2
        rw [show off + 0 * 2 + 1 = off + 1 by omega] at hcell
        dsimp only at hcell
        have hn16 := HF.out.1.l16
        have h0q : 0 < q := by omega
        have h0q' : (0 : Int) < (q : Int) := by omega
        have HR : Hid (joinL q d0.size lu = jb lu q d0.size) := rfl
        clear hgro hc9 hcc9 hd0
        subst hds
        go_wp2_with fail
        go_loopw [8, 35] (fun t i x => ∃ j : Nat, j ≤ d0.size ∧ i = .int .i64 (j : Nat) ∧ GroB W0.heap.size W0 t (jb lu q j) x) (fun _ i _ => d0.size - (intOf i).toNat)
        case atStart => exact ⟨0, Nat.zero_le _, rfl, HG0.out⟩
        case round =>
          clear HG0 hcell
          obtain ⟨j, hj, rfl, hgb⟩ := hrel
          by_cases hjt : j < d0.size
          · have hji : (j : Int) < (d0.size : Int) := by omega
            have HG : Hid (GroB W0.heap.size W0 u8 (jb lu q j) wr) := hgb
            have HY : Hid (∀ W, Below W0.heap.size W0 W → Calls Tryd.prog 43 #[.slice (some ⟨b, off, none⟩) q q, u6, .int .i64 (j : Nat)] W fun e w' => e = .returned (.int .u8 (Gf.jUp (wt lu q) (dat lu j) q : Nat)) ∧ Below W.heap.size W w') := fun W hW => HBY.out j W hjt hW
            have HT : Hid (jb lu q (j + 1) = jb lu q j ++ [UInt8.ofNat (Gf.jUp (wt lu q) (dat lu j) q)]) := jb_succ lu q j
            have HTn : Hid ((jb lu q j).length = j) := jb_length lu q j
            have hyl : Gf.jUp (wt lu q) (dat lu j) q < 256 := Gf.jUp_lt (wt_lt lu q) _ _
            clear hgb
            generalize Gf.jUp (wt lu q) (dat lu j) q = y at *
            generalize jb lu q j = L1 at *
            go_wp2_with fail
            refine (HY.out _ HG.out.bel).mono ?_
            rintro e w2 ⟨rfl, hb2⟩
            have G2 : Hid (GroB W0.heap.size W0 u8 L1 w2) := HG.out.below hb2
            have G3 : Hid (GroB W0.heap.size W0 u8 L1 (w2.alloc (.cells #[.int .u8 (y : Nat)] 5))) := G2.out.below (albel _ _)
            clear hb2
            go_wp2_with (first
              | (at_builtin; refine NU.list_app (by rfl) _ _ 22 5 (by rfl) W0.heap.size (.int .u8 0) 1 1 Tryd.underlying22 C0.info_u8 (by rfl) (by decide) (by decide) u8 _ _ (by rfl) G3.out.own (by have := HTn.out; omega) ⟨w2.heap.size, 0, none⟩ 1 [.int .u8 (y : Nat)] (by rfl) (by rfl) (one_byte' _ _ _) (by simp [Value.oneCell']) G3.out.size ?_; intro gg cap1 xn hown1 hgrow hat hlt1))
            have HE : Hid (GroB W0.heap.size W0 (.slice (some ⟨gg, 0, none⟩) (L1.length + 1) cap1) (jb lu q (j + 1)) xn) :=
              ⟨by rw [HT.out]; exact owns_snoc _ (by rw [byte_nat y hyl]; exact hown1), grown_bel G3.out.bel G3.out.own hgrow G3.out.size, Nat.le_trans G3.out.size hgrow.size⟩
            clear hown1 hgrow hat hlt1
            go_wp2
            go_roundw
            case rel => exact ⟨j + 1, by omega, by go_num, HE.out⟩
            case measure => simp [intOf]; omega
          · obtain rfl : j = d0.size := by omega
            have hconv := conv_own hgb.own
            have HBB : Hid (Below w.heap.size w wr) := HB.out.trans (hgb.bel.mono HB.out.size)
            clear hgb
            go_wp2
            go_ret
            rw [HR.out]
            exact ⟨rfl, HBB.out⟩
end Go.Proofs.YtianmmonkllhpaaDoor.L4
