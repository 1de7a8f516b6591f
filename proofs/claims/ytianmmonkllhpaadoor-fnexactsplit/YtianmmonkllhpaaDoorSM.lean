/-
  The laws' own marks in rows of shares: laid, and looked for.
-/
import Derived.Test.YtianmmonkllhpaaDoorSI
import Derived.Test.YtianmmonkllhpaaDoorM8
namespace Go.Proofs.YtianmmonkllhpaaDoor.SM
open Go.RowKit
open Go.Proofs.YtianmmonkllhpaaDoor.C0 Go.Proofs.YtianmmonkllhpaaDoor.SH Go.Proofs.YtianmmonkllhpaaDoor.SI Go.Proofs.YtianmmonkllhpaaDoor.Mk

theorem conv_one (w : World) (c : Nat) (hc : c < 256) : (convert 22 9 (.slice (some ⟨w.heap.size, 0, none⟩) 1 1)).run Tryd.prog (w.alloc (.cells #[.int .u8 (c : Int)] 5)) = .ok (.string ⟨#[UInt8.ofNat c]⟩) (w.alloc (.cells #[.int .u8 (c : Int)] 5)) := by
  refine run_convert_bytes_back _ 22 9 5 _ 1 [UInt8.ofNat c] Tryd.underlying22 Tryd.underlying5 Tryd.underlying9 ?_
  intro j hj
  have hj0 : j = 0 := by simpa using hj
  subst hj0
  rw [add0]
  have : ((UInt8.ofNat c).toNat : Int) = (c : Int) := by simp [UInt8.toNat_ofNat']; omega
  rw [show [UInt8.ofNat c][0] = UInt8.ofNat c from rfl, this]
  simp [go_sem]
theorem cat_one (x : UInt8) (acc : List UInt8) : (⟨#[x]⟩ : ByteArray) ++ ⟨acc.toArray⟩ = ⟨(x :: acc).toArray⟩ := by
  apply ByteArray.ext
  rw [ByteArray.data_append]
  simp
def RelD (k0 : Nat) (w : World) (k s : Value) (wr : World) : Prop :=
  ∃ (n f : Nat) (acc : List UInt8), k = .int .i64 n ∧ s = .string ⟨acc.toArray⟩ ∧ n < 10 ^ f ∧ n ≤ k0 ∧ acc.length + f = 10 ∧ digs 10 k0 [] = digs f n acc ∧ Below w.heap.size w wr
set_option maxRecDepth 100000 in
set_option maxHeartbeats 800000 in
theorem markText_any (k : Nat) (w : World) (h1 : 0 < k) (h2 : k < 10000000000) :
    Calls Tryd.prog 54 #[.int .i64 k] w fun e w' => e = .returned (.string (markOf k)) ∧ Below w.heap.size w w' := by
  have H0 : Hid (RelD k w (.int .i64 k) (.string ⟨#[]⟩) w) := ⟨k, 10, [], rfl, rfl, by omega, Nat.le_refl _, rfl, rfl, Below.refl _ _⟩
  have h1' : ¬ (k : Int) ≤ 0 := by omega
  go_enter Tryd.func54, Tryd.ntmps54
  go_wp2
  go_loopw [0, 3] (fun k' s wr => RelD k w k' s wr) (fun k' _ _ => (intOf k').toNat)
  case atStart => exact H0.out
  case round =>
    clear H0
    obtain ⟨n, f, acc, rfl, rfl, hn, hnk, hf, hd, hbel⟩ := hrel
    by_cases hlt : 0 < n
    · have hlt' : (0 : Int) < (n : Int) := by omega
      have hconv := conv_one wr (48 + n % 10) (by omega)
      have e1 : ((48 + n % 10 : Nat) : Int) = 48 + (n : Int) % 10 := by omega
      rw [e1] at hconv
      have HN : Hid (RelD k w (.int .i64 ((n : Int) / 10)) (.string (⟨#[UInt8.ofNat (48 + n % 10)]⟩ ++ ⟨acc.toArray⟩)) (wr.alloc (.cells #[.int .u8 (48 + (n : Int) % 10)] 5))) := by
        rw [cat_one]
        obtain ⟨f', rfl⟩ : ∃ f', f = f' + 1 := by
          cases f with
          | zero => simp at hn; omega
          | succ f => exact ⟨f, rfl⟩
        refine ⟨n / 10, f', _, by simp, rfl, ?_, by omega, by simp; omega, by rw [hd, digs_step _ _ _ hlt], hbel.alloc hbel.size _⟩
        rw [Nat.pow_succ] at hn; omega
      clear hbel hd
      go_wp2
      go_roundw
      case rel => simpa using HN.out
      case measure => simp [intOf]; omega
    · obtain rfl : n = 0 := by omega
      rw [digs_zero] at hd
      have HB : Hid (Below w.heap.size w wr) := hbel
      have HD : Hid (digs 10 k [] = acc) := hd
      clear hd hbel
      go_wp2
      go_ret
      refine ⟨ret_val ?_, HB.out⟩
      show Value.string ((⟨#[109]⟩ : ByteArray) ++ ⟨acc.toArray⟩) = .string (markOf k)
      rw [cat_one, ← HD.out]; rfl
theorem cp_set : ∀ (l : List Sh) (i : Nat) (p : Sh), cp (l.set i p) = ((cp l).set (i * 2) (.int .i64 p.1)).set (i * 2 + 1) (.string p.2)
  | [], _, _ => rfl
  | q :: l, 0, p => by simp [cp]
  | q :: l, i + 1, p => by
    have := cp_set l i p
    rw [show (i + 1) * 2 = i * 2 + 2 by omega]
    simp only [cp, List.set_cons_succ, List.flatMap_cons, List.cons_append, List.nil_append] at this ⊢
    rw [this]
theorem form_shares {B : Nat} {w : World} {a : Option Addr} {n cap : Nat} {l : List Sh} (h : OShares B w (.slice a n cap) l) (h0 : 0 < l.length) : ∃ g, a = some ⟨g, 0, none⟩ ∧ n = l.length ∧ B ≤ g ∧ g < w.heap.size := by
  rcases h.2 with ⟨_, h1⟩ | ⟨g, cap', cur, h1, hb, hg, _⟩
  · omega
  · simp only [Value.slice.injEq] at h1
    exact ⟨g, h1.1, h1.2.1, hb, (Array.getElem?_eq_some_iff.1 hg).1⟩
theorem stored_shares {B g n cap : Nat} {w : World} {l : List Sh} (h : OShares B w (.slice (some ⟨g, 0, none⟩) n cap) l) (hn : l.length = n) (j : Nat) (p : Sh) :
    OShares B ((w.setCell ⟨g, j * 2, none⟩ (.int .i64 p.1)).setCell ⟨g, j * 2 + 1, none⟩ (.string p.2)) (.slice (some ⟨g, 0, none⟩) n cap) (l.set j p) := by
  subst hn
  have := (World.ownsRow.stored (World.ownsRow.stored h (j * 2) (.int .i64 p.1)).1 (j * 2 + 1) (.string p.2)).1
  unfold OShares
  rw [cp_set, List.length_set]
  exact this
theorem own_cell {B g n cap : Nat} {w : World} {l : List Sh} (h : OShares B w (.slice (some ⟨g, 0, none⟩) n cap) l) (j : Nat) (hj : j < l.length * 2) : (∃ o, w.cell? ⟨g, j, none⟩ = some o) ∧ w.frozen? ⟨g, j, none⟩ = false := by
  obtain ⟨b, hb, hn, _⟩ := form_shares h (by omega)
  subst hn
  refine ⟨?_, World.ownsRow.frozenAt h j⟩
  rw [World.ownsRow.cellAt h j hj]
  exact ⟨_, List.getElem?_eq_getElem (by rw [cp_length]; omega)⟩
abbrev mine (v : Value) : Nat → Prop := fun g => v.ownBlock = some g
def RelQ (B k n : Nat) (v : Value) (w : World) (q i : Value) (wr : World) : Prop :=
  ∃ (j : Nat) (l : List Sh), j ≤ n ∧ i = .int .i64 j ∧ q = .int .i64 ((k + j * 2 : Nat) : Int) ∧ l.length = n ∧ (∀ m, m < j → l[m]? = some (((k + m * 2 : Nat) : Int), markOf (k + m * 2 + 1))) ∧ OShares B wr v l ∧ Wrote (mine v) w wr
theorem RelQ.step {B k n j cap g : Nat} {w wr w1 : World} {l : List Sh} (hj : j < n) (hl : l.length = n) (hm : ∀ m, m < j → l[m]? = some (((k + m * 2 : Nat) : Int), markOf (k + m * 2 + 1))) (ho : OShares B wr (.slice (some ⟨g, 0, none⟩) n cap) l) (ht : Wrote (mine (.slice (some ⟨g, 0, none⟩) n cap)) w wr)
    (h1 : Below (wr.setCell ⟨g, j * 2, none⟩ (.int .i64 ((k + j * 2 : Nat) : Int))).heap.size (wr.setCell ⟨g, j * 2, none⟩ (.int .i64 ((k + j * 2 : Nat) : Int))) w1) :
    RelQ B k n (.slice (some ⟨g, 0, none⟩) n cap) w (.int .i64 ((k + (j + 1) * 2 : Nat) : Int)) (.int .i64 ((j + 1 : Nat) : Int)) (w1.setCell ⟨g, j * 2 + 1, none⟩ (.string (markOf (k + j * 2 + 1)))) := by
  have hs := (World.ownsRow.stored (hl ▸ ho) (j * 2) (.int .i64 ((k + j * 2 : Nat) : Int))).1
  have hs1 := own_keep hs (fun g' hg' => h1.block g' (hs.lt g' hg').2)
  have hs2 := (World.ownsRow.stored hs1 (j * 2 + 1) (.string (markOf (k + j * 2 + 1)))).1
  refine ⟨j + 1, l.set j (((k + j * 2 : Nat) : Int), markOf (k + j * 2 + 1)), by omega, rfl, rfl, by rw [List.length_set]; exact hl, fun m h => ?_, ?_, ((ht.setCell (p := ⟨g, j * 2, none⟩) (.inr rfl) _).trans (Wrote.of_below h1)).setCell (p := ⟨g, j * 2 + 1, none⟩) (.inr rfl) _⟩
  · rw [List.getElem?_set]
    by_cases e : j = m
    · subst e; rw [if_pos rfl, if_pos (by omega)]
    · rw [if_neg e]; exact hm m (by omega)
  · unfold OShares
    rw [cp_set, List.length_set, hl]
    rw [hl] at hs2
    exact hs2
set_option maxRecDepth 100000 in
set_option maxHeartbeats 1600000 in
theorem markShares_any (B k : Nat) (a : Option Addr) (cap : Nat) (l : List Sh) (w : World) (hv : OShares B w (.slice a l.length cap) l) (h1 : 0 < k) (h2 : k + l.length * 2 < 10000000) :
    Calls Tryd.prog 23 #[.slice a l.length cap, .int .i64 k] w fun e w' => e = .returned (.int .i64 ((k + l.length * 2 : Nat) : Int)) ∧ OShares B w' (.slice a l.length cap) (marksP k l.length) ∧ Wrote (mine (.slice a l.length cap)) w w' := by
  have H0 : Hid (RelQ B k l.length (.slice a l.length cap) w (.int .i64 k) (.int .i64 0) w) := ⟨0, l, Nat.zero_le _, rfl, by simp, rfl, fun m h => by omega, hv, Wrote.refl _ _⟩
  obtain ⟨n, hn⟩ : ∃ n, l.length = n := ⟨_, rfl⟩
  rw [hn] at H0 h2 ⊢
  clear hv hn
  go_enter Tryd.func23, Tryd.ntmps23
  go_wp2
  go_loopw [1, 5] (fun q i wr => RelQ B k n (.slice a n cap) w q i wr) (fun _ i _ => n - (intOf i).toNat)
  case atStart => exact H0.out
  case round =>
    clear H0
    obtain ⟨j, l', hj, rfl, rfl, hl', hm, ho, ht⟩ := hrel
    by_cases hlt : j < n
    · obtain ⟨g, rfl, -, hBg, hgz⟩ := form_shares ho (by omega)
      have hlt' : (j : Int) < (n : Int) := by omega
      obtain ⟨x, hx⟩ : ∃ x, k + j * 2 = x := ⟨_, rfl⟩
      have HX : Hid (k + j * 2 = x) := hx
      have hxb : x < 10000000 := by omega
      have HN : Hid (∀ w1, Below (wr.setCell ⟨g, j * 2, none⟩ (.int .i64 (x : Int))).heap.size (wr.setCell ⟨g, j * 2, none⟩ (.int .i64 (x : Int))) w1 → RelQ B k n (.slice (some ⟨g, 0, none⟩) n cap) w (.int .i64 ((k + (j + 1) * 2 : Nat) : Int)) (.int .i64 ((j + 1 : Nat) : Int)) (w1.setCell ⟨g, j * 2 + 1, none⟩ (.string (markOf (x + 1))))) := fun w1 h => by
        rw [← hx] at h ⊢; exact RelQ.step hlt hl' hm ho ht h
      obtain ⟨⟨o0, ho0⟩, hf0⟩ := own_cell ho (j * 2) (by omega)
      have HO : Hid (∀ w1, Below (wr.setCell ⟨g, j * 2, none⟩ (.int .i64 (x : Int))).heap.size (wr.setCell ⟨g, j * 2, none⟩ (.int .i64 (x : Int))) w1 → (∃ o, w1.cell? ⟨g, j * 2 + 1, none⟩ = some o) ∧ w1.frozen? ⟨g, j * 2 + 1, none⟩ = false) := fun w1 h => by
        have hs := (World.ownsRow.stored (hl' ▸ ho) (j * 2) (.int .i64 (x : Int))).1
        have hs1 := own_keep hs (fun g' hg' => h.block g' (hs.lt g' hg').2)
        refine ⟨?_, World.ownsRow.frozenAt hs1 _⟩
        rw [World.ownsRow.cellAt hs1 _ (by omega)]
        exact ⟨_, List.getElem?_eq_getElem (by rw [List.length_set, cp_length]; omega)⟩
      rw [hx]
      clear hm ho ht hx
      go_wp2_with (first
        | (go_at_call 54; refine (markText_any (x + 1) _ (by omega) (by omega)).mono ?_; rintro e w1 ⟨rfl, hb1⟩; obtain ⟨⟨o, ho⟩, hfo⟩ := HO.out w1 hb1))
      go_roundw
      case rel =>
        have := HN.out w1 hb1
        have e1 : (x : Int) + 1 + 1 = ((k + (j + 1) * 2 : Nat) : Int) := by have := HX.out; omega
        rw [e1]
        simpa using this
      case measure => simp [intOf]; omega
    · obtain rfl : j = n := by omega
      have HF : Hid (OShares B wr (.slice a j cap) (marksP k j) ∧ Wrote (mine (.slice a j cap)) w wr) := by
        refine ⟨?_, ht⟩
        rw [show marksP k j = l' from ?_]; exact ho
        apply List.ext_getElem?
        intro i
        by_cases hi : i < j
        · rw [marksP_at _ _ _ hi, hm i hi]
        · rw [List.getElem?_eq_none (by rw [marksP_length]; omega), List.getElem?_eq_none (by omega)]
      clear hm ho ht
      go_wp2
      go_ret
      exact ⟨rfl, HF.out.1, HF.out.2⟩
def RelI (k n : Nat) (w : World) (q i : Value) (wr : World) : Prop := ∃ j : Nat, j ≤ n ∧ i = .int .i64 j ∧ q = .int .i64 ((k + j * 2 : Nat) : Int) ∧ Below w.heap.size w wr
set_option maxRecDepth 100000 in
set_option maxHeartbeats 1600000 in
theorem heldShares_any (k n : Nat) (v : Value) (w : World) (hv : Shares w v (marksP k n)) (h1 : 0 < k) (h2 : k + n * 2 < 10000000) :
    Calls Tryd.prog 24 #[v, .int .i64 k] w fun e w' => e = .returned (.int .i64 ((k + n * 2 : Nat) : Int)) ∧ Below w.heap.size w w' := by
  have H0 : Hid (RelI k n w (.int .i64 k) (.int .i64 0) w) := ⟨0, Nat.zero_le _, rfl, by simp, Below.refl _ _⟩
  obtain ⟨a, cap, rfl, hl, hc⟩ := hv
  rw [marksP_length] at hc hl ⊢
  go_enter Tryd.func24, Tryd.ntmps24
  go_wp2
  go_loopw [1, 5] (fun q i wr => RelI k n w q i wr) (fun _ i _ => n - (intOf i).toNat)
  case atStart => exact H0.out
  case round =>
    clear H0
    obtain ⟨j, hj, rfl, rfl, hbel⟩ := hrel
    by_cases hlt : j < n
    · obtain ⟨b, off, rfl, hbb, hcc⟩ := hc (by omega)
      have hlt' : (j : Int) < (n : Int) := by omega
      obtain ⟨c0, c1⟩ := hcc j _ (marksP_at n k j hlt)
      rw [← hbel.cell (p := ⟨b, off + j * 2, none⟩) hbb] at c0
      rw [← hbel.cell (p := ⟨b, off + j * 2 + 1, none⟩) hbb] at c1
      obtain ⟨x, hx⟩ : ∃ x, k + j * 2 = x := ⟨_, rfl⟩
      have HX : Hid (k + j * 2 = x) := hx
      have hxb : x < 10000000 := by omega
      have hx0 : 0 < x := by omega
      dsimp only at c0 c1
      rw [hx] at c0 c1 ⊢
      have HB : Hid (Below w.heap.size w wr) := hbel
      have HC : Hid (∀ w1, Below wr.heap.size wr w1 → w1.cell? ⟨b, off + j * 2 + 1, none⟩ = some (.string (markOf (x + 1)))) := fun w1 h => by
        rw [h.cell (p := ⟨b, off + j * 2 + 1, none⟩) (by have := hbel.size; show b < _; omega)]; exact c1
      clear hcc hx hbel
      go_wp2
      go_region_with (go_at_call 54; refine (markText_any (x + 1) _ (by omega) (by omega)).mono ?_; rintro e w1 ⟨rfl, hb1⟩; have c2 := HC.out w1 ⟨hb1.os, hb1.tape, hb1.output, hb1.size, hb1.block⟩)
      all_goals
        go_wp2
        go_roundw
        case rel => exact ⟨j + 1, by omega, by go_num, by have := HX.out; have e1 : (x : Int) + 1 + 1 = ((k + (j + 1) * 2 : Nat) : Int) := (by omega); rw [e1], HB.out.drew.trans (hb1.mono HB.out.size)⟩
        case measure => simp [intOf]; omega
    · obtain rfl : j = n := by omega
      have HB : Hid (Below w.heap.size w wr) := hbel
      clear hbel
      go_wp2
      go_ret
      exact ⟨rfl, HB.out⟩
end Go.Proofs.YtianmmonkllhpaaDoor.SM
