/-
  The laws' own marks: they are laid into the rows of a disk, and looked for there.
-/
import Derived.Test.YtfiabbfdnmldjaaDoorS3
import Derived.Test.YtfiabbfdnmldjaaDoorM8
namespace Go.Proofs.YtfiabbfdnmldjaaDoor.S4
open Go.RowKit
open Go.Proofs.YtfiabbfdnmldjaaDoor.C0 Go.Proofs.YtfiabbfdnmldjaaDoor.S0 Go.Proofs.YtfiabbfdnmldjaaDoor.S1 Go.Proofs.YtfiabbfdnmldjaaDoor.Mk

theorem conv_one (w : World) (c : Nat) (hc : c < 256) : (convert 60 9 (.slice (some ⟨w.heap.size, 0, none⟩) 1 1)).run Tryd.prog (w.alloc (.cells #[.int .u8 (c : Int)] 5)) = .ok (.string ⟨#[UInt8.ofNat c]⟩) (w.alloc (.cells #[.int .u8 (c : Int)] 5)) := by
  refine run_convert_bytes_back _ 60 9 5 _ 1 [UInt8.ofNat c] Tryd.underlying60 Tryd.underlying5 Tryd.underlying9 ?_
  intro j hj
  have hj0 : j = 0 := by simpa using hj
  subst hj0
  rw [add0]
  have : ((UInt8.ofNat c).toNat : Int) = (c : Int) := by simp [UInt8.toNat_ofNat']; omega
  rw [show [UInt8.ofNat c][0] = UInt8.ofNat c from rfl, this]
  simp [go_sem]
theorem cat_one (x : UInt8) (acc : List UInt8) : (⟨#[x]⟩ : ByteArray) ++ ⟨acc.toArray⟩ = ⟨(x :: acc).toArray⟩ := by
  apply ByteArray.ext
  rw [ByteArray.data_append]
  simp
def RelD (k0 : Nat) (w : World) (k s : Value) (wr : World) : Prop :=
  ∃ (n f : Nat) (acc : List UInt8), k = .int .i64 n ∧ s = .string ⟨acc.toArray⟩ ∧ n < 10 ^ f ∧ n ≤ k0 ∧ acc.length + f = 10 ∧ digs 10 k0 [] = digs f n acc ∧ Below w.heap.size w wr
set_option maxRecDepth 100000 in
set_option maxHeartbeats 800000 in
theorem markText_any (k : Nat) (w : World) (h1 : 0 < k) (h2 : k < 10000000000) :
    Calls Tryd.prog 53 #[.int .i64 k] w fun e w' => e = .returned (.string (markOf k)) ∧ Below w.heap.size w w' := by
  have H0 : Hid (RelD k w (.int .i64 k) (.string ⟨#[]⟩) w) := ⟨k, 10, [], rfl, rfl, by omega, Nat.le_refl _, rfl, rfl, Below.refl _ _⟩
  have h1' : ¬ (k : Int) ≤ 0 := by omega
  go_enter Tryd.func53, Tryd.ntmps53
  go_wp2
  go_loopw [0, 3] (fun k' s wr => RelD k w k' s wr) (fun k' _ _ => (intOf k').toNat)
  case atStart => exact H0.out
  case round =>
    clear H0
    obtain ⟨n, f, acc, rfl, rfl, hn, hnk, hf, hd, hbel⟩ := hrel
    by_cases hlt : 0 < n
    · have hlt' : (0 : Int) < (n : Int) := by omega
      have hconv := conv_one wr (48 + n % 10) (by omega)
      have e1 : ((48 + n % 10 : Nat) : Int) = 48 + (n : Int) % 10 := by omega
      rw [e1] at hconv
      have HN : Hid (RelD k w (.int .i64 ((n : Int) / 10)) (.string (⟨#[UInt8.ofNat (48 + n % 10)]⟩ ++ ⟨acc.toArray⟩)) (wr.alloc (.cells #[.int .u8 (48 + (n : Int) % 10)] 5))) := by
        rw [cat_one]
        obtain ⟨f', rfl⟩ : ∃ f', f = f' + 1 := by
          cases f with
          | zero => simp at hn; omega
          | succ f => exact ⟨f, rfl⟩
        refine ⟨n / 10, f', _, by simp, rfl, ?_, by omega, by simp; omega, by rw [hd, digs_step _ _ _ hlt], hbel.alloc hbel.size _⟩
        rw [Nat.pow_succ] at hn; omega
      clear hbel hd
      go_wp2
      go_roundw
      case rel => simpa using HN.out
      case measure => simp [intOf]; omega
    · obtain rfl : n = 0 := by omega
      rw [digs_zero] at hd
      have HB : Hid (Below w.heap.size w wr) := hbel
      have HD : Hid (digs 10 k [] = acc) := hd
      clear hd hbel
      go_wp2
      go_ret
      refine ⟨ret_val ?_, HB.out⟩
      show Value.string ((⟨#[109]⟩ : ByteArray) ++ ⟨acc.toArray⟩) = .string (markOf k)
      rw [cat_one, ← HD.out]; rfl

theorem cs_set (l : List ByteArray) (j : Nat) (s : ByteArray) : cs (l.set j s) = (cs l).set j (.string s) := by simp [cs, List.map_set]
theorem cp_set : ∀ (l : List Pend) (i : Nat) (p : Pend), cp (l.set i p) = ((cp l).set (i * 2) (.int .i64 p.1)).set (i * 2 + 1) (.string p.2)
  | [], _, _ => rfl
  | q :: l, 0, p => by simp [cp]
  | q :: l, i + 1, p => by
    have := cp_set l i p
    rw [show (i + 1) * 2 = i * 2 + 2 by omega]
    simp only [cp, List.set_cons_succ, List.flatMap_cons, List.cons_append, List.nil_append] at this ⊢
    rw [this]
/-- The block of a row that is not empty. -/
theorem form_strs {B : Nat} {w : World} {a : Option Addr} {n cap : Nat} {l : List ByteArray} (h : OStrs B w (.slice a n cap) l) (h0 : 0 < l.length) : ∃ g, a = some ⟨g, 0, none⟩ ∧ n = l.length ∧ B ≤ g ∧ g < w.heap.size := by
  rcases h.2 with ⟨_, h1⟩ | ⟨g, cap', cur, h1, hb, hg, _⟩
  · omega
  · simp only [Value.slice.injEq] at h1
    exact ⟨g, h1.1, h1.2.1, hb, (Array.getElem?_eq_some_iff.1 hg).1⟩
theorem form_pends {B : Nat} {w : World} {a : Option Addr} {n cap : Nat} {l : List Pend} (h : OPends B w (.slice a n cap) l) (h0 : 0 < l.length) : ∃ g, a = some ⟨g, 0, none⟩ ∧ n = l.length ∧ B ≤ g ∧ g < w.heap.size := by
  rcases h.2 with ⟨_, h1⟩ | ⟨g, cap', cur, h1, hb, hg, _⟩
  · omega
  · simp only [Value.slice.injEq] at h1
    exact ⟨g, h1.1, h1.2.1, hb, (Array.getElem?_eq_some_iff.1 hg).1⟩
theorem stored_strs {B g n cap : Nat} {w : World} {l : List ByteArray} (h : OStrs B w (.slice (some ⟨g, 0, none⟩) n cap) l) (hn : l.length = n) (j : Nat) (s : ByteArray) :
    OStrs B (w.setCell ⟨g, j, none⟩ (.string s)) (.slice (some ⟨g, 0, none⟩) n cap) (l.set j s) := by
  subst hn
  have := (World.ownsRow.stored h j (.string s)).1
  unfold OStrs
  rw [cs_set, List.length_set]
  exact this
theorem stored_pends {B g n cap : Nat} {w : World} {l : List Pend} (h : OPends B w (.slice (some ⟨g, 0, none⟩) n cap) l) (hn : l.length = n) (j : Nat) (p : Pend) :
    OPends B ((w.setCell ⟨g, j * 2, none⟩ (.int .i64 p.1)).setCell ⟨g, j * 2 + 1, none⟩ (.string p.2)) (.slice (some ⟨g, 0, none⟩) n cap) (l.set j p) := by
  subst hn
  have := (World.ownsRow.stored (World.ownsRow.stored h (j * 2) (.int .i64 p.1)).1 (j * 2 + 1) (.string p.2)).1
  unfold OPends
  rw [cp_set, List.length_set]
  exact this
theorem own_cell_s {B g n cap : Nat} {w : World} {l : List ByteArray} (h : OStrs B w (.slice (some ⟨g, 0, none⟩) n cap) l) (j : Nat) (hj : j < l.length) : (∃ o, w.cell? ⟨g, j, none⟩ = some o) ∧ w.frozen? ⟨g, j, none⟩ = false := by
  obtain ⟨b, hb, hn, _⟩ := form_strs h (by omega)
  subst hn
  refine ⟨?_, World.ownsRow.frozenAt h j⟩
  rw [World.ownsRow.cellAt h j (by omega)]
  exact ⟨_, List.getElem?_eq_getElem (by rw [cs_length]; omega)⟩
theorem own_cell_p {B g n cap : Nat} {w : World} {l : List Pend} (h : OPends B w (.slice (some ⟨g, 0, none⟩) n cap) l) (j : Nat) (hj : j < l.length * 2) : (∃ o, w.cell? ⟨g, j, none⟩ = some o) ∧ w.frozen? ⟨g, j, none⟩ = false := by
  obtain ⟨b, hb, hn, _⟩ := form_pends h (by omega)
  subst hn
  refine ⟨?_, World.ownsRow.frozenAt h j⟩
  rw [World.ownsRow.cellAt h j hj]
  exact ⟨_, List.getElem?_eq_getElem (by rw [cp_length]; omega)⟩

abbrev mine (v : Value) : Nat → Prop := fun g => v.ownBlock = some g
def RelM (B k n : Nat) (v : Value) (w : World) (q i : Value) (wr : World) : Prop :=
  ∃ (j : Nat) (l : List ByteArray), j ≤ n ∧ i = .int .i64 j ∧ q = .int .i64 ((k + j : Nat) : Int) ∧ l.length = n ∧ (∀ m, m < j → l[m]? = some (markOf (k + m))) ∧ OStrs B wr v l ∧ Wrote (mine v) w wr
theorem RelM.step {B k n j cap g : Nat} {w wr w1 : World} {l : List ByteArray} (hj : j < n) (hl : l.length = n) (hm : ∀ m, m < j → l[m]? = some (markOf (k + m))) (ho : OStrs B wr (.slice (some ⟨g, 0, none⟩) n cap) l) (ht : Wrote (mine (.slice (some ⟨g, 0, none⟩) n cap)) w wr) (h1 : Below wr.heap.size wr w1) :
    RelM B k n (.slice (some ⟨g, 0, none⟩) n cap) w (.int .i64 ((k : Int) + (j : Int) + 1)) (.int .i64 ((j : Int) + 1)) (w1.setCell ⟨g, j, none⟩ (.string (markOf (k + j)))) := by
  refine ⟨j + 1, _, by omega, by simp, by simp; omega, by rw [List.length_set]; exact hl, fun m h => ?_, stored_strs (ho.below h1) hl j _, (ht.trans (Wrote.of_below h1)).setCell (p := ⟨g, j, none⟩) (.inr rfl) _⟩
  rw [List.getElem?_set]
  by_cases e : j = m
  · subst e; rw [if_pos rfl, if_pos (by omega)]
  · rw [if_neg e]; exact hm m (by omega)
set_option maxRecDepth 100000 in
set_option maxHeartbeats 800000 in
theorem markStrs_any (B k : Nat) (a : Option Addr) (cap : Nat) (l : List ByteArray) (w : World) (hv : OStrs B w (.slice a l.length cap) l) (h1 : 0 < k) (h2 : k + l.length < 10000000) :
    Calls Tryd.prog 29 #[.slice a l.length cap, .int .i64 k] w fun e w' => e = .returned (.int .i64 ((k + l.length : Nat) : Int)) ∧ OStrs B w' (.slice a l.length cap) (marksS k l.length) ∧ Wrote (mine (.slice a l.length cap)) w w' := by
  have H0 : Hid (RelM B k l.length (.slice a l.length cap) w (.int .i64 k) (.int .i64 0) w) := ⟨0, l, Nat.zero_le _, rfl, by simp, rfl, fun m h => by omega, hv, Wrote.refl _ _⟩
  obtain ⟨n, hn⟩ : ∃ n, l.length = n := ⟨_, rfl⟩
  rw [hn] at H0 h2 ⊢
  clear hv hn
  go_enter Tryd.func29, Tryd.ntmps29
  go_wp2
  go_loopw [1, 5] (fun q i wr => RelM B k n (.slice a n cap) w q i wr) (fun _ i _ => n - (intOf i).toNat)
  case atStart => exact H0.out
  case round =>
    clear H0
    obtain ⟨j, l', hj, rfl, rfl, hl', hm, ho, ht⟩ := hrel
    by_cases hlt : j < n
    · obtain ⟨g, rfl, -, hBg, hgz⟩ := form_strs ho (by omega)
      have hlt' : (j : Int) < (n : Int) := by omega
      have HN : Hid (∀ w1, Below wr.heap.size wr w1 → RelM B k n (.slice (some ⟨g, 0, none⟩) n cap) w (.int .i64 ((k : Int) + (j : Int) + 1)) (.int .i64 ((j : Int) + 1)) (w1.setCell ⟨g, j, none⟩ (.string (markOf (k + j))))) := fun w1 h => RelM.step hlt hl' hm ho ht h
      have HO : Hid (∀ w1, Below wr.heap.size wr w1 → (∃ o, w1.cell? ⟨g, j, none⟩ = some o) ∧ w1.frozen? ⟨g, j, none⟩ = false) := fun w1 h => own_cell_s (ho.below h) j (by omega)
      clear hm ho ht
      go_wp2_with (first
        | (go_at_call 53; refine (markText_any _ _ (by omega) (by omega)).mono ?_; rintro e w1 ⟨rfl, hb1⟩; obtain ⟨⟨o, ho⟩, hfo⟩ := HO.out w1 hb1))
      go_roundw
      case rel => simpa using HN.out w1 hb1
      case measure => simp [intOf]; omega
    · obtain rfl : j = n := by omega
      have HF : Hid (OStrs B wr (.slice a j cap) (marksS k j) ∧ Wrote (mine (.slice a j cap)) w wr) := by
        refine ⟨?_, ht⟩
        rw [show marksS k j = l' from ?_]; exact ho
        apply List.ext_getElem?
        intro i
        by_cases hi : i < j
        · rw [marksS_at _ _ _ hi, hm i hi]
        · rw [List.getElem?_eq_none (by rw [marksS_length]; omega), List.getElem?_eq_none (by omega)]
      clear hm ho ht
      go_wp2
      go_ret
      exact ⟨rfl, HF.out.1, HF.out.2⟩
end Go.Proofs.YtfiabbfdnmldjaaDoor.S4
