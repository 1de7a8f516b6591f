/-
  The draw of shares that may be joined, or not.
-/
import Derived.Test.YtianmmonkllhpaaDoorDX
import Derived.Test.YtianmmonkllhpaaDoorJ6
import Derived.Deep.Cut
namespace Go.Proofs.YtianmmonkllhpaaDoor.DZ
open Go.RowKit
open Go.Proofs.YtianmmonkllhpaaDoor.C0 Go.Proofs.YtianmmonkllhpaaDoor.D0 Go.Proofs.YtianmmonkllhpaaDoor.HB Go.Proofs.YtianmmonkllhpaaDoor.DS Go.Proofs.YtianmmonkllhpaaDoor.DX
open Go.Proofs.YtianmmonkllhpaaDoor.SH (Sh Shares OShares cp cp_at cp_length)
open Go.Proofs.YtianmmonkllhpaaDoor.ST (splitL splitL_length)

/-- Shares in a block of the call's own, from a place on. -/
def LS (g off N : Nat) (l : List Sh) (w : World) : Prop :=
  off + l.length * 2 ≤ N ∧ ∃ f, w.rowIs g 33 N f ∧ ∀ i s, l[i]? = some s → f (off + i * 2) = .int .i64 s.1 ∧ f (off + i * 2 + 1) = .string s.2
theorem LS.shares {g off N cap : Nat} {l : List Sh} {w : World} (h : LS g off N l w) (hl : l.length ≤ maxLen) : Shares w (.slice (some ⟨g, off, none⟩) l.length cap) l := by
  obtain ⟨h0, f, h1, h2⟩ := h
  refine ⟨_, cap, rfl, hl, fun _ => ⟨g, off, rfl, h1.lt, fun i s hs => ?_⟩⟩
  have hi : i < l.length := (List.getElem?_eq_some_iff.1 hs).1
  have := h2 i s hs
  exact ⟨(h1.cell (by omega)).trans (by rw [this.1]), (h1.cell (by omega)).trans (by rw [this.2])⟩
theorem LS.block {g off N : Nat} {l : List Sh} {w w' : World} (h : LS g off N l w) (hb : w'.heap[g]? = w.heap[g]?) : LS g off N l w' := by
  obtain ⟨h0, f, h1, h2⟩ := h
  exact ⟨h0, f, h1.of_block hb, h2⟩
theorem LS.drop {g off N r : Nat} {l : List Sh} {w : World} (h : LS g off N l w) (hr : r ≤ l.length) : LS g (off + r * 2) N (l.drop r) w := by
  obtain ⟨h0, f, h1, h2⟩ := h
  refine ⟨by rw [List.length_drop]; omega, f, h1, fun i s hs => ?_⟩
  rw [List.getElem?_drop] at hs
  have := h2 _ _ hs
  rw [show off + r * 2 + i * 2 = off + (r + i) * 2 by omega]
  exact this
theorem LS.setIx {g off N : Nat} {l : List Sh} {w : World} {p : Sh} (h : LS g off N (p :: l) w) (z : Int) : LS g off N ((z, p.2) :: l) (w.setCell ⟨g, off, none⟩ (.int .i64 z)) := by
  obtain ⟨h0, f, h1, h2⟩ := h
  refine ⟨by simpa using h0, _, h1.set _ _, fun i s hs => ?_⟩
  show (if off + i * 2 = off then _ else f (off + i * 2)) = _ ∧ (if off + i * 2 + 1 = off then _ else f (off + i * 2 + 1)) = _
  cases i with
  | zero =>
    simp at hs; subst hs
    have := (h2 0 p rfl).2
    rw [if_pos (by omega), if_neg (by omega)]
    exact ⟨rfl, this⟩
  | succ i =>
    rw [if_neg (by omega), if_neg (by omega)]
    exact h2 (i + 1) s hs
theorem LS.setDt {g off N : Nat} {l : List Sh} {w : World} {p : Sh} (h : LS g off N (p :: l) w) (d : ByteArray) : LS g off N ((p.1, d) :: l) (w.setCell ⟨g, off + 1, none⟩ (.string d)) := by
  obtain ⟨h0, f, h1, h2⟩ := h
  refine ⟨by simpa using h0, _, h1.set _ _, fun i s hs => ?_⟩
  show (if off + i * 2 = off + 1 then _ else f (off + i * 2)) = _ ∧ (if off + i * 2 + 1 = off + 1 then _ else f (off + i * 2 + 1)) = _
  cases i with
  | zero =>
    simp at hs; subst hs
    have := (h2 0 p rfl).1
    rw [if_neg (by omega), if_pos (by omega)]
    exact ⟨this, rfl⟩
  | succ i =>
    rw [if_neg (by omega), if_neg (by omega)]
    exact h2 (i + 1) s hs
theorem LS.cells {g off N : Nat} {l : List Sh} {w : World} {p : Sh} (h : LS g off N (p :: l) w) : w.cell? ⟨g, off, none⟩ = some (.int .i64 p.1) ∧ w.cell? ⟨g, off + 1, none⟩ = some (.string p.2) ∧ (∀ o, w.frozen? ⟨g, o, none⟩ = false) ∧ g < w.heap.size := by
  obtain ⟨h0, f, h1, h2⟩ := h
  have := h2 0 p rfl
  rw [show off + 0 * 2 = off by omega] at this
  simp at h0
  exact ⟨(h1.cell (by omega)).trans (by rw [← this.1]), (h1.cell (by omega)).trans (by rw [← this.2]), fun o => h1.frozen o, h1.lt⟩
theorem LS.of {B g : Nat} {n cap : Nat} {l : List Sh} {w : World} (h : OShares B w (.slice (some ⟨g, 0, none⟩) n cap) l) (hn : n = l.length) (h1 : 0 < n) : ∃ N, LS g 0 N l w ∧ n ≤ cap ∧ N = cap * 2 := by
  subst hn
  rcases h.2 with ⟨h2, _⟩ | ⟨g', cap', cur, h2, hb, hg, hnc, hcm, hcs, htake⟩
  · cases h2
  · simp only [Value.slice.injEq, Option.some.injEq, Addr.mk.injEq] at h2
    obtain ⟨⟨rfl, -, -⟩, -, rfl⟩ := h2
    refine ⟨cap * 2, ⟨by omega, fun i => cur.getD i (.int .i64 0), ⟨cur, hg, hcs, fun i hi => by simp [hcs, hi]⟩, fun i s hs => ?_⟩, hnc, rfl⟩
    have hi : i < l.length := (List.getElem?_eq_some_iff.1 hs).1
    have h4 := cp_at l i s hs
    rw [← htake] at h4
    rw [List.getElem?_take, if_pos (by omega), List.getElem?_take, if_pos (by omega)] at h4
    simp only [Array.getElem?_toList] at h4
    rw [Nat.zero_add]
    exact ⟨by show cur.getD (i * 2) (.int .i64 0) = _; rw [Array.getD_eq_getD_getElem?, h4.1]; rfl, by show cur.getD (i * 2 + 1) (.int .i64 0) = _; rw [Array.getD_eq_getD_getElem?, h4.2]; rfl⟩
/-- What a draw holds: the source, the shares, and what lay there ahead. -/
structure St (n : Nat) (v : Value) (w : World) (g off N : Nat) (l : List Sh) (x : World) : Prop where
  dr : Dr w.heap.size w.heap.size n v x
  bel : Below w.heap.size w x
  ls : LS g off N l x
  gp : w.heap.size < g
theorem St.grown {n : Nat} {v : Value} {w : World} {g off N : Nat} {l : List Sh} {x y : World} (h : St n v w g off N l x) (hd : Dr w.heap.size w.heap.size n v y) (hg : x.grownBy y (some w.heap.size)) : St n v w g off N l y := by
  obtain ⟨h0, f, h1, h2⟩ := h.ls
  have hgp := h.gp
  exact ⟨hd, h.bel.grown hg h.bel.size (fun k hk => by cases hk; exact Nat.le_refl _), h.ls.block (hg.block g h1.lt (by simp; omega)), hgp⟩
def Told (w : World) (e : Ending) (w' : World) : Prop :=
  ∃ (nd : Int) (a : Option Addr) (cap : Nat) (l : List Sh), e = .returned (.tuple #[.int .i64 nd, .slice a l.length cap]) ∧ Shares w' (.slice a l.length cap) l ∧ l.length ≤ cap ∧ (∀ s ∈ l, s.2.size ≤ 20) ∧ Below w.heap.size w w'
theorem Told.of {n : Nat} {v : Value} {w : World} {g off N cap : Nat} {l : List Sh} {x : World} {nd : Int} (h : St n v w g off N l x) (hc : l.length ≤ cap) (hz : ∀ s ∈ l, s.2.size ≤ 20) (h6 : l.length ≤ 6) : Told w (.returned (.tuple #[.int .i64 nd, .slice (some ⟨g, off, none⟩) l.length cap])) x :=
  ⟨nd, _, cap, l, rfl, h.ls.shares (by unfold maxLen; omega), hc, hz, h.bel⟩

theorem cons_size {p q : Sh} {l : List Sh} (hz : ∀ s ∈ (p :: l), s.2.size ≤ 20) (hq : q.2.size ≤ 20) : ∀ s ∈ (q :: l), s.2.size ≤ 20 := by
  intro s hs
  rcases List.mem_cons.1 hs with rfl | h
  · exact hq
  · exact hz s (List.mem_cons_of_mem _ h)
set_option maxRecDepth 100000 in
set_option maxHeartbeats 3200000 in
theorem join_draw (v : Value) (n : Nat) (w : World) (hc : IsCode w.heap.size w v n) :
    Calls Tryd.prog 7 #[v] w fun e w' => Told w e w' := by
  go_enter Tryd.func7, Tryd.ntmps7
  go_wp2_with fail
  refine (drawSource v n _ hc).mono ?_
  rintro e w1 ⟨rfl, d1, b1⟩
  have z0 := b1.size
  go_wp2_with fail
  refine (drawN 6 d1 (by omega) (by omega)).mono ?_
  rintro e w2 ⟨c, rfl, hcr, d2, g2⟩
  have hc1 : IntKind.i64.wrap (1 + (c : Int)) = 1 + (c : Int) := by rw [IntKind.wrap_i64]; omega
  obtain ⟨cd, hcd0⟩ : ∃ cd : Int, 1 + (c : Int) = cd := ⟨_, rfl⟩
  go_wp2_with fail
  (try rw [hcd0])
  refine (drawN cd d2 (by omega) (by omega)).mono ?_
  rintro e w3 ⟨r, rfl, hr, d3, g3⟩
  have hc2 : IntKind.i64.wrap (1 + (r : Int)) = 1 + (r : Int) := by rw [IntKind.wrap_i64]; omega
  obtain ⟨nd, hnd0⟩ : ∃ nd : Int, 1 + (r : Int) = nd := ⟨_, rfl⟩
  have hn1 : 1 ≤ nd := by omega
  have hnc : nd ≤ cd := by omega
  have hc6 : cd ≤ 6 := by omega
  go_wp2_with fail
  (try rw [hnd0])
  refine (drawN 8 d3 (by omega) (by omega)).mono ?_
  rintro e w4 ⟨k, rfl, hk, d4, g4⟩
  go_wp2_with fail
  refine (drawBytes k d4 (by omega)).mono ?_
  rintro e w5 ⟨t, rfl, ht, d5, g5⟩
  have hsz : 1 ≤ ((⟨#[109]⟩ : ByteArray) ++ t).size ∧ ((⟨#[109]⟩ : ByteArray) ++ t).size ≤ 8 := by
    have h1 : (⟨#[109]⟩ : ByteArray).size = 1 := rfl
    rw [ByteArray.size_append, h1]; omega
  have B5 : Below w.heap.size w w5 := b1.trans (grown_below (grown_trans (grown_trans (grown_trans g2 g3) g4) g5) (Nat.le_refl _) z0)
  obtain ⟨cn, rfl⟩ := Int.eq_ofNat_of_zero_le (show 0 ≤ cd by omega)
  obtain ⟨nn, rfl⟩ := Int.eq_ofNat_of_zero_le (show 0 ≤ nd by omega)
  clear b1 g2 g3 g4 g5 d1 d2 d3 d4 hc1 hc2 hcd0 hnd0 hr hcr
  go_wp2_with fail
  refine (J6.split_spec ((⟨#[109]⟩ : ByteArray) ++ t) ⟨#[115, 97, 108, 116]⟩ nn cn _ hsz.1 (by omega) (by omega) (by omega) (by omega) (by decide)).mono ?_
  rintro e w6 ⟨a, cap, rfl, ho, hb⟩
  obtain ⟨g, hg, hgl, hgz⟩ : ∃ g, a = some ⟨g, 0, none⟩ ∧ w5.heap.size ≤ g ∧ g < w6.heap.size := by
    rcases ho.2 with ⟨h1, h0⟩ | ⟨g, cap', cur, h1, hb', hg', _⟩
    · rw [splitL_length] at h0; omega
    · simp only [Value.slice.injEq] at h1
      exact ⟨g, h1.1, hb', (Array.getElem?_eq_some_iff.1 hg').1⟩
  subst hg
  obtain ⟨L, hL⟩ : ∃ L, splitL ((⟨#[109]⟩ : ByteArray) ++ t) ⟨#[115, 97, 108, 116]⟩ (nn - 1) cn = L := ⟨_, rfl⟩
  have hLn : L.length = cn := by rw [← hL, splitL_length]
  have hLz : ∀ s ∈ L, s.2.size ≤ 8 := by
    intro s hs
    rw [← hL] at hs
    unfold splitL at hs
    obtain ⟨c', _, rfl⟩ := List.mem_map.1 hs
    show (⟨(ST.shareL _ _ _ _).toArray⟩ : ByteArray).size ≤ 8
    rw [KA.size_mk, ST.shareL_length]
    exact hsz.2
  rw [hL] at ho
  have hc0 : 0 < cn := by omega
  obtain ⟨N, hls, hcap0, hN⟩ := LS.of ho hLn.symm hc0
  have HS0 : Hid (St n v w g 0 N L w6) := ⟨d5.below hb, B5.trans (hb.mono B5.size), hls, by have := d5.lt; omega⟩
  clear ho hb hls hL d5 B5 hgl hgz hN
  have H0 := HS0.out
  go_wp2_with fail
  refine (drawOne 2 H0.dr (by omega) (by omega)).mono ?_
  rintro e w7 ⟨b, rfl, d7, g7⟩
  have HS1 : Hid (St n v w g 0 N L w7) := HS0.out.grown d7 g7
  clear H0 HS0 d7 g7
  cases b with
  | false =>
    obtain ⟨p, l2, rfl⟩ : ∃ p l2, L = p :: l2 := by
      cases L with
      | nil => simp at hLn; omega
      | cons p l2 => exact ⟨p, l2, rfl⟩
    have HS := HS1
    have HLN : Hid ((p :: l2).length = cn) := hLn
    have hcap : (p :: l2).length ≤ cap := by omega
    have h6 : (p :: l2).length ≤ 6 := by omega
    have hz8 := hLz
    have hz : ∀ s ∈ (p :: l2), s.2.size ≤ 20 := fun s hs => by have := hLz s hs; omega
    have hpos : (0 : Int) < (cn : Int) := by omega
    clear hLn hLz
    have H1 := HS.out
    go_wp2_with fail
    refine (drawOne 5 H1.dr (by omega) (by omega)).mono ?_
    rintro e y1 ⟨b1, rfl, e1, t1⟩
    have HT : Hid (St n v w g 0 N (p :: l2) y1) := HS.out.grown e1 t1
    clear H1 e1 t1
    cases b1 with
    | false =>
      have HF : Hid (Told w (.returned (.tuple #[.int .i64 (nn : Nat), .slice (some ⟨g, 0, none⟩) cn cap])) y1) := by
        have := Told.of (nd := (nn : Nat)) HT.out hcap hz h6
        rw [HLN.out] at this
        exact this
      go_wp2
      exact bodyPost_ret (v := .tuple #[.int .i64 (nn : Nat), .slice (some ⟨g, 0, none⟩) cn cap]) (by simp [results, Tryd.results7, go_sem]) rfl HF.out
    | true =>
      have H2 := HT.out
      go_wp2_with fail
      refine (drawN 3 H2.dr (by omega) (by omega)).mono ?_
      rintro e y2 ⟨q, rfl, hq, e2, t2⟩
      have HU : Hid (St n v w g 0 N (p :: l2) y2) := HT.out.grown e2 t2
      clear H2 e2 t2
      have hq3 : q = 0 ∨ q = 1 ∨ q = 2 := by omega
      rcases hq3 with rfl | rfl | rfl
      · have H3 := HU.out
        go_wp2_with fail
        refine (drawN 8 H3.dr (by omega) (by omega)).mono ?_
        rintro e y3 ⟨z, rfl, hzz, e3, t3⟩
        have H4 : Hid (St n v w g 0 N (p :: l2) y3) := HU.out.grown e3 t3
        obtain ⟨c0, c1, cf, cz⟩ := H4.out.ls.cells
        have cf0 := cf (0)
        have HF : Hid (Told w (.returned (.tuple #[.int .i64 (nn : Nat), .slice (some ⟨g, 0, none⟩) cn cap])) (y3.setCell ⟨g, 0, none⟩ (.int .i64 (z : Nat)))) := by
          have hs : St n v w g 0 N (((z : Nat), p.2) :: l2) (y3.setCell ⟨g, 0, none⟩ (.int .i64 (z : Nat))) :=
            ⟨H4.out.dr.set H4.out.gp _, H4.out.bel.setCell (Nat.le_of_lt H4.out.gp) _, H4.out.ls.setIx _, H4.out.gp⟩
          have := Told.of (nd := (nn : Nat)) (cap := cap) hs hcap (cons_size hz (hz p (List.mem_cons_self ..))) h6
          rw [show ((((z : Nat) : Int), p.2) :: l2).length = cn from HLN.out] at this
          exact this
        clear H3 e3 t3 cf
        go_wp2
        exact bodyPost_ret (v := .tuple #[.int .i64 (nn : Nat), .slice (some ⟨g, 0, none⟩) cn cap]) (by simp [results, Tryd.results7, go_sem]) rfl HF.out
      · obtain ⟨c0, c1, cf, cz⟩ := HU.out.ls.cells
        have cf1 := cf (0 + 1)
        have hps := hz p (List.mem_cons_self ..)
        have HF : Hid (Told w (.returned (.tuple #[.int .i64 (nn : Nat), .slice (some ⟨g, 0, none⟩) cn cap])) (y2.setCell ⟨g, 0 + 1, none⟩ (.string (p.2 ++ ⟨#[120]⟩)))) := by
          have hs : St n v w g 0 N ((p.1, p.2 ++ ⟨#[120]⟩) :: l2) (y2.setCell ⟨g, 0 + 1, none⟩ (.string (p.2 ++ ⟨#[120]⟩))) :=
            ⟨HU.out.dr.set HU.out.gp _, HU.out.bel.setCell (Nat.le_of_lt HU.out.gp) _, HU.out.ls.setDt _, HU.out.gp⟩
          have hx : (p.2 ++ (⟨#[120]⟩ : ByteArray)).size ≤ 20 := by
            have h1 : (⟨#[120]⟩ : ByteArray).size = 1 := rfl
            rw [ByteArray.size_append, h1]; have := hz8 p (List.mem_cons_self ..); omega
          have := Told.of (nd := (nn : Nat)) (cap := cap) hs hcap (cons_size hz hx) h6
          rw [show ((p.1, p.2 ++ (⟨#[120]⟩ : ByteArray)) :: l2).length = cn from HLN.out] at this
          exact this
        clear cf
        go_wp2
        exact bodyPost_ret (v := .tuple #[.int .i64 (nn : Nat), .slice (some ⟨g, 0, none⟩) cn cap]) (by simp [results, Tryd.results7, go_sem]) rfl HF.out
      · obtain ⟨c0, c1, cf, cz⟩ := HU.out.ls.cells
        have H3 := HU.out
        have hps := hz8 p (List.mem_cons_self ..)
        go_wp2_with fail
        refine (spoil_any _ _ _ _ p.2 _ H3.dr (by omega)).mono ?_
        rintro e y3 ⟨u, rfl, hu, e3, t3⟩
        have H4 : Hid (St n v w g 0 N (p :: l2) y3) := HU.out.grown e3 t3
        clear c0 c1 cf cz
        obtain ⟨c0, c1, cf, cz⟩ := H4.out.ls.cells
        have cf1 := cf (0 + 1)
        have HF : Hid (Told w (.returned (.tuple #[.int .i64 (nn : Nat), .slice (some ⟨g, 0, none⟩) cn cap])) (y3.setCell ⟨g, 0 + 1, none⟩ (.string u))) := by
          have hs : St n v w g 0 N ((p.1, u) :: l2) (y3.setCell ⟨g, 0 + 1, none⟩ (.string u)) :=
            ⟨H4.out.dr.set H4.out.gp _, H4.out.bel.setCell (Nat.le_of_lt H4.out.gp) _, H4.out.ls.setDt _, H4.out.gp⟩
          have hx : u.size ≤ 20 := by omega
          have := Told.of (nd := (nn : Nat)) (cap := cap) hs hcap (cons_size hz hx) h6
          rw [show ((p.1, u) :: l2).length = cn from HLN.out] at this
          exact this
        clear H3 e3 t3 cf
        go_wp2
        exact bodyPost_ret (v := .tuple #[.int .i64 (nn : Nat), .slice (some ⟨g, 0, none⟩) cn cap]) (by simp [results, Tryd.results7, go_sem]) rfl HF.out
  | true =>
    have H1 := HS1.out
    go_wp2_with fail
    refine (drawN (cn : Int) H1.dr (by omega) (by omega)).mono ?_
    rintro e w8 ⟨r8, rfl, hr8, d8, g8⟩
    have hrl : r8 < cn := by omega
    have HS2 : Hid (St n v w g (0 + r8 * 2) N (L.drop r8) w8) := by
      have h := HS1.out.grown d8 g8
      exact ⟨h.dr, h.bel, h.ls.drop (by omega), h.gp⟩
    obtain ⟨p, l2, hpl⟩ : ∃ p l2, L.drop r8 = p :: l2 := by
      cases h : L.drop r8 with
      | nil => have := congrArg List.length h; rw [List.length_drop] at this; simp at this; omega
      | cons p l2 => exact ⟨p, l2, rfl⟩
    rw [hpl, Nat.zero_add] at HS2
    have HS := HS2
    have HLN : Hid ((p :: l2).length = cn - r8) := by unfold Hid; rw [← hpl, List.length_drop, hLn]
    have hcap : (p :: l2).length ≤ cap - r8 := by have := HLN.out; omega
    have h6 : (p :: l2).length ≤ 6 := by have := HLN.out; omega
    have hz8 : ∀ s ∈ (p :: l2), s.2.size ≤ 8 := fun s hs => hLz s (List.mem_of_mem_drop (by rw [hpl]; exact hs))
    have hz : ∀ s ∈ (p :: l2), s.2.size ≤ 20 := fun s hs => by have := hz8 s hs; omega
    have hpos : (0 : Int) < ((cn - r8 : Nat) : Int) := by omega
    have hri : (r8 : Int) ≤ (cn : Int) := by omega
    have hcr : ¬ cap = r8 := by omega
    clear H1 HS1 HS2 hLn hLz hpl d8 g8
    have H1 := HS.out
    go_wp2_with fail
    refine (drawOne 5 H1.dr (by omega) (by omega)).mono ?_
    rintro e y1 ⟨b1, rfl, e1, t1⟩
    have HT : Hid (St n v w g (r8 * 2) N (p :: l2) y1) := HS.out.grown e1 t1
    clear H1 e1 t1
    cases b1 with
    | false =>
      have HF : Hid (Told w (.returned (.tuple #[.int .i64 (nn : Nat), .slice (some ⟨g, r8 * 2, none⟩)  (cn - r8) (cap - r8)])) y1) := by
        have := Told.of (nd := (nn : Nat)) HT.out hcap hz h6
        rw [HLN.out] at this
        exact this
      go_wp2
      exact bodyPost_ret (v := .tuple #[.int .i64 (nn : Nat), .slice (some ⟨g, r8 * 2, none⟩)  (cn - r8) (cap - r8)]) (by simp [results, Tryd.results7, go_sem]) rfl HF.out
    | true =>
      have H2 := HT.out
      go_wp2_with fail
      refine (drawN 3 H2.dr (by omega) (by omega)).mono ?_
      rintro e y2 ⟨q, rfl, hq, e2, t2⟩
      have HU : Hid (St n v w g (r8 * 2) N (p :: l2) y2) := HT.out.grown e2 t2
      clear H2 e2 t2
      have hq3 : q = 0 ∨ q = 1 ∨ q = 2 := by omega
      rcases hq3 with rfl | rfl | rfl
      · have H3 := HU.out
        go_wp2_with fail
        refine (drawN 8 H3.dr (by omega) (by omega)).mono ?_
        rintro e y3 ⟨z, rfl, hzz, e3, t3⟩
        have H4 : Hid (St n v w g (r8 * 2) N (p :: l2) y3) := HU.out.grown e3 t3
        obtain ⟨c0, c1, cf, cz⟩ := H4.out.ls.cells
        have cf0 := cf (r8 * 2)
        have HF : Hid (Told w (.returned (.tuple #[.int .i64 (nn : Nat), .slice (some ⟨g, r8 * 2, none⟩)  (cn - r8) (cap - r8)])) (y3.setCell ⟨g, r8 * 2, none⟩ (.int .i64 (z : Nat)))) := by
          have hs : St n v w g (r8 * 2) N (((z : Nat), p.2) :: l2) (y3.setCell ⟨g, r8 * 2, none⟩ (.int .i64 (z : Nat))) :=
            ⟨H4.out.dr.set H4.out.gp _, H4.out.bel.setCell (Nat.le_of_lt H4.out.gp) _, H4.out.ls.setIx _, H4.out.gp⟩
          have := Told.of (nd := (nn : Nat)) (cap := cap - r8) hs hcap (cons_size hz (hz p (List.mem_cons_self ..))) h6
          rw [show ((((z : Nat) : Int), p.2) :: l2).length = cn - r8 from HLN.out] at this
          exact this
        clear H3 e3 t3 cf
        go_wp2
        exact bodyPost_ret (v := .tuple #[.int .i64 (nn : Nat), .slice (some ⟨g, r8 * 2, none⟩)  (cn - r8) (cap - r8)]) (by simp [results, Tryd.results7, go_sem]) rfl HF.out
      · obtain ⟨c0, c1, cf, cz⟩ := HU.out.ls.cells
        have cf1 := cf (r8 * 2 + 1)
        have hps := hz p (List.mem_cons_self ..)
        have HF : Hid (Told w (.returned (.tuple #[.int .i64 (nn : Nat), .slice (some ⟨g, r8 * 2, none⟩)  (cn - r8) (cap - r8)])) (y2.setCell ⟨g, r8 * 2 + 1, none⟩ (.string (p.2 ++ ⟨#[120]⟩)))) := by
          have hs : St n v w g (r8 * 2) N ((p.1, p.2 ++ ⟨#[120]⟩) :: l2) (y2.setCell ⟨g, r8 * 2 + 1, none⟩ (.string (p.2 ++ ⟨#[120]⟩))) :=
            ⟨HU.out.dr.set HU.out.gp _, HU.out.bel.setCell (Nat.le_of_lt HU.out.gp) _, HU.out.ls.setDt _, HU.out.gp⟩
          have hx : (p.2 ++ (⟨#[120]⟩ : ByteArray)).size ≤ 20 := by
            have h1 : (⟨#[120]⟩ : ByteArray).size = 1 := rfl
            rw [ByteArray.size_append, h1]; have := hz8 p (List.mem_cons_self ..); omega
          have := Told.of (nd := (nn : Nat)) (cap := cap - r8) hs hcap (cons_size hz hx) h6
          rw [show ((p.1, p.2 ++ (⟨#[120]⟩ : ByteArray)) :: l2).length = cn - r8 from HLN.out] at this
          exact this
        clear cf
        go_wp2
        exact bodyPost_ret (v := .tuple #[.int .i64 (nn : Nat), .slice (some ⟨g, r8 * 2, none⟩)  (cn - r8) (cap - r8)]) (by simp [results, Tryd.results7, go_sem]) rfl HF.out
      · obtain ⟨c0, c1, cf, cz⟩ := HU.out.ls.cells
        have H3 := HU.out
        have hps := hz8 p (List.mem_cons_self ..)
        go_wp2_with fail
        refine (spoil_any _ _ _ _ p.2 _ H3.dr (by omega)).mono ?_
        rintro e y3 ⟨u, rfl, hu, e3, t3⟩
        have H4 : Hid (St n v w g (r8 * 2) N (p :: l2) y3) := HU.out.grown e3 t3
        clear c0 c1 cf cz
        obtain ⟨c0, c1, cf, cz⟩ := H4.out.ls.cells
        have cf1 := cf (r8 * 2 + 1)
        have HF : Hid (Told w (.returned (.tuple #[.int .i64 (nn : Nat), .slice (some ⟨g, r8 * 2, none⟩)  (cn - r8) (cap - r8)])) (y3.setCell ⟨g, r8 * 2 + 1, none⟩ (.string u))) := by
          have hs : St n v w g (r8 * 2) N ((p.1, u) :: l2) (y3.setCell ⟨g, r8 * 2 + 1, none⟩ (.string u)) :=
            ⟨H4.out.dr.set H4.out.gp _, H4.out.bel.setCell (Nat.le_of_lt H4.out.gp) _, H4.out.ls.setDt _, H4.out.gp⟩
          have hx : u.size ≤ 20 := by omega
          have := Told.of (nd := (nn : Nat)) (cap := cap - r8) hs hcap (cons_size hz hx) h6
          rw [show ((p.1, u) :: l2).length = cn - r8 from HLN.out] at this
          exact this
        clear H3 e3 t3 cf
        go_wp2
        exact bodyPost_ret (v := .tuple #[.int .i64 (nn : Nat), .slice (some ⟨g, r8 * 2, none⟩)  (cn - r8) (cap - r8)]) (by simp [results, Tryd.results7, go_sem]) rfl HF.out
end Go.Proofs.YtianmmonkllhpaaDoor.DZ
