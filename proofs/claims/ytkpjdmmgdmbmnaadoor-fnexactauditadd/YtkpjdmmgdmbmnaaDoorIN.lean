/-
  The laws' own marks in rows of numbers and of texts: laid, and looked for.
-/
import Derived.Test.YtkpjdmmgdmbmnaaDoorIF
import Derived.Test.YtkpjdmmgdmbmnaaDoorQA
namespace Go.Proofs.YtkpjdmmgdmbmnaaDoor.IN
open Go.RowKit
open Go.Proofs.YtkpjdmmgdmbmnaaDoor.C0 Go.Proofs.YtkpjdmmgdmbmnaaDoor.HB Go.Proofs.YtkpjdmmgdmbmnaaDoor.Mk
open Go.Proofs.YtkpjdmmgdmbmnaaDoor.A0 Go.Proofs.YtkpjdmmgdmbmnaaDoor.A4 Go.Proofs.YtkpjdmmgdmbmnaaDoor.I1
open Go.Proofs.YtkpjdmmgdmbmnaaDoor.A6 (OIRow ci ci_length drewN_below add0)
open Go.Deep (blk_alloc_lt blk_alloc_new nblk_alloc)
/-- The mark of the number k, of up to twenty digits. -/
def mkOf (k : Nat) : ByteArray := ⟨((109 : UInt8) :: digs 20 k []).toArray⟩
abbrev mine (v : Value) : Nat → Prop := fun g => v.ownBlock = some g
def mkI (k n : Nat) : List Int := (List.range n).map fun i => ((k + i : Nat) : Int)
def mkS (k n : Nat) : List ByteArray := (List.range n).map fun i => mkOf (k + i)
theorem mkI_length (k n : Nat) : (mkI k n).length = n := by simp [mkI]
theorem mkS_length (k n : Nat) : (mkS k n).length = n := by simp [mkS]
theorem mkI_at (k n i : Nat) (h : i < n) : (mkI k n)[i]? = some ((k + i : Nat) : Int) := by simp [mkI, h]
theorem mkS_at (k n i : Nat) (h : i < n) : (mkS k n)[i]? = some (mkOf (k + i)) := by simp [mkS, h]
theorem form_own {B : Nat} {e : TypeId} {sz n : Nat} {xs : List Value} {w : World} {v : Value} (h : w.ownsRow B e sz v n xs) (h0 : 0 < n) : ∃ g cap, v = .slice (some ⟨g, 0, none⟩) n cap ∧ B ≤ g ∧ g < w.heap.size := by
  rcases h.2 with ⟨_, h1⟩ | ⟨g, cap', cur, h1, hb, hg, _⟩
  · omega
  · exact ⟨g, cap', h1, hb, (Array.getElem?_eq_some_iff.1 hg).1⟩
theorem slice_own {B : Nat} {e : TypeId} {sz n : Nat} {xs : List Value} {w : World} {v : Value} (h : w.ownsRow B e sz v n xs) : ∃ a cap, v = .slice a n cap := by
  rcases h.2 with ⟨h1, h2⟩ | ⟨g, cap', cur, h1, _⟩
  · exact ⟨none, 0, by rw [h1, h2]⟩
  · exact ⟨_, _, h1⟩
theorem cell_own {B : Nat} {e : TypeId} {sz n : Nat} {xs : List Value} {w : World} {g cap : Nat} (h : w.ownsRow B e sz (.slice (some ⟨g, 0, none⟩) n cap) n xs) (j : Nat) (hj : j < n * sz) (hx : xs.length = n * sz) : (∃ o, w.cell? ⟨g, j, none⟩ = some o) ∧ w.frozen? ⟨g, j, none⟩ = false := by
  refine ⟨?_, World.ownsRow.frozenAt h j⟩
  rw [World.ownsRow.cellAt h j (by omega)]
  exact ⟨_, List.getElem?_eq_getElem (by omega)⟩
theorem cell_i {B g n cap : Nat} {w : World} {l : List Int} (h : OIRow B w (.slice (some ⟨g, 0, none⟩) n cap) l) (hn : l.length = n) (j : Nat) (hj : j < n) : (∃ o, w.cell? ⟨g, j, none⟩ = some o) ∧ w.frozen? ⟨g, j, none⟩ = false := by
  subst hn
  exact cell_own h j (by omega) (ci_length l)
theorem cell_s {B g n cap : Nat} {w : World} {l : List ByteArray} (h : OT B w (.slice (some ⟨g, 0, none⟩) n cap) l) (hn : l.length = n) (j : Nat) (hj : j < n) : (∃ o, w.cell? ⟨g, j, none⟩ = some o) ∧ w.frozen? ⟨g, j, none⟩ = false := by
  subst hn
  exact cell_own h j (by omega) (by simp)
/-- What was written between w and w' lies in new blocks, or in those of S. -/
structure Wrote (S : Nat → Prop) (w w' : World) : Prop where
  os : w'.os = w.os
  tape : w'.tape = w.tape
  output : w'.output = w.output
  size : w.heap.size ≤ w'.heap.size
  block : ∀ k, k < w.heap.size → ¬ S k → w'.heap[k]? = w.heap[k]?
theorem Wrote.refl (S : Nat → Prop) (w : World) : Wrote S w w := ⟨rfl, rfl, rfl, Nat.le_refl _, fun _ _ _ => rfl⟩
theorem Wrote.trans {S : Nat → Prop} {a b c : World} (h : Wrote S a b) (k : Wrote S b c) : Wrote S a c :=
  ⟨k.os.trans h.os, k.tape.trans h.tape, k.output.trans h.output, Nat.le_trans h.size k.size, fun i hi hs => (k.block i (Nat.lt_of_lt_of_le hi h.size) hs).trans (h.block i hi hs)⟩
theorem Wrote.of_below {S : Nat → Prop} {a b : World} (h : Below a.heap.size a b) : Wrote S a b := ⟨h.os, h.tape, h.output, h.size, fun k hk _ => h.block k hk⟩
theorem Wrote.below {S : Nat → Prop} {a b : World} {B : Nat} (h : Wrote S a b) (hB : B ≤ a.heap.size) (hS : ∀ k, S k → B ≤ k) : Below B a b :=
  ⟨h.os, h.tape, h.output, h.size, fun k hk => h.block k (by omega) (fun hs => by have := hS k hs; omega)⟩
theorem Wrote.mono {S S' : Nat → Prop} {a b : World} (h : Wrote S a b) (hS : ∀ k, S k → S' k) : Wrote S' a b :=
  ⟨h.os, h.tape, h.output, h.size, fun k hk hs => h.block k hk (fun q => hs (hS k q))⟩
theorem Wrote.of_grown {S : Nat → Prop} {a b : World} {row : Option Nat} (h : a.grownBy b row) (hS : ∀ k, row = some k → S k) : Wrote S a b :=
  ⟨h.os, h.tape, h.output, h.size, fun k hk hs => h.block k hk (fun e => hs (hS k e.symm))⟩
theorem Wrote.alloc {S : Nat → Prop} {a b : World} (h : Wrote S a b) (o : Obj) : Wrote S a (b.alloc o) :=
  h.trans (Wrote.of_below ((Below.refl _ _).alloc (Nat.le_refl _) o))
theorem Wrote.setCell {S : Nat → Prop} {a b : World} (h : Wrote S a b) {p : Addr} (hp : a.heap.size ≤ p.block ∨ S p.block) (u : Value) : Wrote S a (b.setCell p u) :=
  ⟨h.os, h.tape, h.output, by simpa [World.setCell] using h.size, fun k hk hs => by
    have hne : k ≠ p.block := by
      intro e
      rcases hp with hp | hp
      · omega
      · exact hs (e ▸ hp)
    rw [Below.heap_setCell _ _ _ _ hne]; exact h.block k hk hs⟩
theorem Wrote.drew {S : Nat → Prop} {a b : World} (h : Wrote S a b) : Wrote S a b.drew := ⟨h.os, h.tape, h.output, h.size, h.block⟩

theorem own_wrote {S : Nat → Prop} {B : Nat} {e : TypeId} {sz n : Nat} {xs : List Value} {w w' : World} {v : Value} (h : w.ownsRow B e sz v n xs) (ht : Wrote S w w') (hS : ∀ g, v.ownBlock = some g → ¬ S g) : w'.ownsRow B e sz v n xs :=
  NU.own_keep h fun g hg => ht.block g (h.lt g hg).2 (hS g hg)
theorem conv_one (w : World) (c : Nat) (hc : c < 256) : (convert 22 9 (.slice (some ⟨w.heap.size, 0, none⟩) 1 1)).run Tryd.prog (w.alloc (.cells #[.int .u8 (c : Int)] 5)) = .ok (.string ⟨#[UInt8.ofNat c]⟩) (w.alloc (.cells #[.int .u8 (c : Int)] 5)) := by
  refine run_convert_bytes_back _ 22 9 5 _ 1 [UInt8.ofNat c] Tryd.underlying22 Tryd.underlying5 Tryd.underlying9 ?_
  intro j hj
  have hj0 : j = 0 := by simpa using hj
  subst hj0
  rw [add0]
  have : ((UInt8.ofNat c).toNat : Int) = (c : Int) := by simp [UInt8.toNat_ofNat']; omega
  rw [show [UInt8.ofNat c][0] = UInt8.ofNat c from rfl, this]
  simp [go_sem]
theorem cat_one (x : UInt8) (acc : List UInt8) : (⟨#[x]⟩ : ByteArray) ++ ⟨acc.toArray⟩ = ⟨(x :: acc).toArray⟩ := by
  apply ByteArray.ext
  rw [ByteArray.data_append]
  simp
def RelD (k0 : Nat) (w : World) (k s : Value) (wr : World) : Prop :=
  ∃ (n f : Nat) (acc : List UInt8), k = .int .i64 n ∧ s = .string ⟨acc.toArray⟩ ∧ n < 10 ^ f ∧ n ≤ k0 ∧ acc.length + f = 20 ∧ digs 20 k0 [] = digs f n acc ∧ Below w.heap.size w wr
set_option maxRecDepth 100000 in
set_option maxHeartbeats 800000 in
theorem markText_any (k : Nat) (w : World) (h1 : 0 < k) (h2 : k < 1000000000000000000) :
    Calls Tryd.prog 92 #[.int .i64 k] w fun e w' => e = .returned (.string (mkOf k)) ∧ Below w.heap.size w w' := by
  have H0 : Hid (RelD k w (.int .i64 k) (.string ⟨#[]⟩) w) := ⟨k, 20, [], rfl, rfl, by omega, Nat.le_refl _, rfl, rfl, Below.refl _ _⟩
  have h1' : ¬ (k : Int) ≤ 0 := by omega
  go_enter Tryd.func92, Tryd.ntmps92
  go_wp2
  go_loopw [0, 3] (fun k' s wr => RelD k w k' s wr) (fun k' _ _ => (intOf k').toNat)
  case atStart => exact H0.out
  case round =>
    clear H0
    obtain ⟨n, f, acc, rfl, rfl, hn, hnk, hf, hd, hbel⟩ := hrel
    by_cases hlt : 0 < n
    · have hlt' : (0 : Int) < (n : Int) := by omega
      have hconv := conv_one wr (48 + n % 10) (by omega)
      have e1 : ((48 + n % 10 : Nat) : Int) = 48 + (n : Int) % 10 := by omega
      rw [e1] at hconv
      have HN : Hid (RelD k w (.int .i64 ((n : Int) / 10)) (.string (⟨#[UInt8.ofNat (48 + n % 10)]⟩ ++ ⟨acc.toArray⟩)) (wr.alloc (.cells #[.int .u8 (48 + (n : Int) % 10)] 5))) := by
        rw [cat_one]
        obtain ⟨f', rfl⟩ : ∃ f', f = f' + 1 := by
          cases f with
          | zero => simp at hn; omega
          | succ f => exact ⟨f, rfl⟩
        refine ⟨n / 10, f', _, by simp, rfl, ?_, by omega, by simp; omega, by rw [hd, digs_step _ _ _ hlt], hbel.alloc hbel.size _⟩
        rw [Nat.pow_succ] at hn; omega
      clear hbel hd
      go_wp2
      go_roundw
      case rel => simpa using HN.out
      case measure => simp [intOf]; omega
    · obtain rfl : n = 0 := by omega
      rw [digs_zero] at hd
      have HB : Hid (Below w.heap.size w wr) := hbel
      have HD : Hid (digs 20 k [] = acc) := hd
      clear hd hbel
      go_wp2
      go_ret
      refine ⟨ret_val ?_, HB.out⟩
      show Value.string ((⟨#[109]⟩ : ByteArray) ++ ⟨acc.toArray⟩) = .string (mkOf k)
      rw [cat_one, ← HD.out]; rfl

def RelM (B k n : Nat) (v : Value) (w : World) (q i : Value) (wr : World) : Prop :=
  ∃ (j : Nat) (l : List Int), j ≤ n ∧ i = .int .i64 j ∧ q = .int .i64 ((k + j : Nat) : Int) ∧ l.length = n ∧ (∀ m, m < j → l[m]? = some ((k + m : Nat) : Int)) ∧ OIRow B wr v l ∧ Wrote (mine v) w wr
theorem RelM.step {B k n j cap g : Nat} {w wr : World} {l : List Int} (hj : j < n) (hl : l.length = n) (hm : ∀ m, m < j → l[m]? = some ((k + m : Nat) : Int)) (ho : OIRow B wr (.slice (some ⟨g, 0, none⟩) n cap) l) (ht : Wrote (mine (.slice (some ⟨g, 0, none⟩) n cap)) w wr) :
    RelM B k n (.slice (some ⟨g, 0, none⟩) n cap) w (.int .i64 ((k : Int) + (j : Int) + 1)) (.int .i64 ((j : Int) + 1)) (wr.setCell ⟨g, j, none⟩ (.int .i64 ((k + j : Nat) : Int))) := by
  refine ⟨j + 1, l.set j ((k + j : Nat) : Int), by omega, by simp, by simp; omega, by rw [List.length_set]; exact hl, fun m h => ?_, ?_, ht.setCell (p := ⟨g, j, none⟩) (.inr rfl) _⟩
  · rw [List.getElem?_set]
    by_cases e : j = m
    · subst e; rw [if_pos rfl, if_pos (by omega)]
    · rw [if_neg e]; exact hm m (by omega)
  · subst hl
    have := (World.ownsRow.stored ho j (.int .i64 ((k + j : Nat) : Int))).1
    unfold OIRow
    rw [List.length_set, show ci (l.set j ((k + j : Nat) : Int)) = (ci l).set j (.int .i64 ((k + j : Nat) : Int)) by simp [ci, List.map_set]]
    exact this
set_option maxRecDepth 100000 in
set_option maxHeartbeats 800000 in
theorem markInts_any (B k : Nat) (v : Value) (l : List Int) (w : World) (hv : OIRow B w v l) (h1 : 0 < k) (h2 : k + l.length < 1000000000000000000) :
    Calls Tryd.prog 74 #[v, .int .i64 k] w fun e w' => e = .returned (.int .i64 ((k + l.length : Nat) : Int)) ∧ OIRow B w' v (mkI k l.length) ∧ Wrote (mine v) w w' := by
  obtain ⟨a, cap, rfl⟩ := slice_own hv
  have H0 : Hid (RelM B k l.length (.slice a l.length cap) w (.int .i64 k) (.int .i64 0) w) := ⟨0, l, Nat.zero_le _, rfl, by simp, rfl, fun m h => by omega, hv, Wrote.refl _ _⟩
  obtain ⟨n, hn⟩ : ∃ n, l.length = n := ⟨_, rfl⟩
  rw [hn] at H0 h2 ⊢
  clear hv hn
  go_enter Tryd.func74, Tryd.ntmps74
  go_wp2
  go_loopw [1, 5] (fun q i wr => RelM B k n (.slice a n cap) w q i wr) (fun _ i _ => n - (intOf i).toNat)
  case atStart => exact H0.out
  case round =>
    clear H0
    obtain ⟨j, l', hj, rfl, rfl, hl', hm, ho, ht⟩ := hrel
    by_cases hlt : j < n
    · obtain ⟨g, cap', hsl, hBg, hgz⟩ := form_own ho (by omega)
      rw [hl'] at hsl
      simp only [Value.slice.injEq] at hsl
      obtain ⟨rfl, -, -⟩ := hsl
      have hlt' : (j : Int) < (n : Int) := by omega
      have HN : Hid (RelM B k n (.slice (some ⟨g, 0, none⟩) n cap) w (.int .i64 ((k : Int) + (j : Int) + 1)) (.int .i64 ((j : Int) + 1)) (wr.setCell ⟨g, j, none⟩ (.int .i64 ((k + j : Nat) : Int)))) := RelM.step hlt hl' hm ho ht
      obtain ⟨⟨o, hoo⟩, hfo⟩ := cell_i ho hl' j (by omega)
      clear ho ht hl' hm
      go_wp2
      go_roundw
      case rel => simpa using HN.out
      case measure => simp [intOf]; omega
    · obtain rfl : j = n := by omega
      have HF : Hid (OIRow B wr (.slice a j cap) (mkI k j) ∧ Wrote (mine (.slice a j cap)) w wr) := by
        refine ⟨?_, ht⟩
        rw [show mkI k j = l' from ?_]; exact ho
        apply List.ext_getElem?
        intro i
        by_cases hi : i < j
        · rw [mkI_at _ _ _ hi, hm i hi]
        · rw [List.getElem?_eq_none (by rw [mkI_length]; omega), List.getElem?_eq_none (by omega)]
      clear ho ht hl' hm
      go_wp2
      go_ret
      exact ⟨rfl, HF.out.1, HF.out.2⟩
def RelI (k n : Nat) (w : World) (q i : Value) (wr : World) : Prop := ∃ j : Nat, j ≤ n ∧ i = .int .i64 j ∧ q = .int .i64 ((k + j : Nat) : Int) ∧ Below w.heap.size w wr
set_option maxRecDepth 100000 in
set_option maxHeartbeats 800000 in
theorem heldInts_any (k n : Nat) (v : Value) (w : World) (hv : IRow w v (mkI k n)) (h1 : 0 < k) (h2 : k + n < 1000000000000000000) :
    Calls Tryd.prog 103 #[v, .int .i64 k] w fun e w' => e = .returned (.int .i64 ((k + n : Nat) : Int)) ∧ Below w.heap.size w w' := by
  have H0 : Hid (RelI k n w (.int .i64 k) (.int .i64 0) w) := ⟨0, Nat.zero_le _, rfl, by simp, Below.refl _ _⟩
  obtain ⟨a, cap, rfl, hl, hc⟩ := hv
  rw [mkI_length] at hc hl ⊢
  unfold maxLen at hl
  go_enter Tryd.func103, Tryd.ntmps103
  go_wp2
  go_loopw [1, 5] (fun q i wr => RelI k n w q i wr) (fun _ i _ => n - (intOf i).toNat)
  case atStart => exact H0.out
  case round =>
    clear H0
    obtain ⟨j, hj, rfl, rfl, hbel⟩ := hrel
    by_cases hlt : j < n
    · obtain ⟨b, off, rfl, hbb, hcc⟩ := hc (by omega)
      have hlt' : (j : Int) < (n : Int) := by omega
      have c0 := hcc j _ (mkI_at k n j hlt)
      rw [← hbel.cell (p := ⟨b, off + j, none⟩) hbb] at c0
      have HB : Hid (Below w.heap.size w wr) := hbel
      clear hcc hbel
      go_wp2
      go_roundw
      case rel => exact ⟨j + 1, by omega, by go_num, by go_num, HB.out⟩
      case measure => simp [intOf]; omega
    · obtain rfl : j = n := by omega
      have HB : Hid (Below w.heap.size w wr) := hbel
      clear hbel
      go_wp2
      go_ret
      exact ⟨rfl, HB.out⟩
def RelZ (B k n : Nat) (v : Value) (w : World) (q i : Value) (wr : World) : Prop :=
  ∃ (j : Nat) (l : List ByteArray), j ≤ n ∧ i = .int .i64 j ∧ q = .int .i64 ((k + j : Nat) : Int) ∧ l.length = n ∧ (∀ m, m < j → l[m]? = some (mkOf (k + m))) ∧ OT B wr v l ∧ Wrote (mine v) w wr
theorem RelZ.step {B k n j cap g : Nat} {w wr w1 : World} {l : List ByteArray} (hj : j < n) (hl : l.length = n) (hm : ∀ m, m < j → l[m]? = some (mkOf (k + m))) (ho : OT B wr (.slice (some ⟨g, 0, none⟩) n cap) l) (ht : Wrote (mine (.slice (some ⟨g, 0, none⟩) n cap)) w wr) (h1 : Below wr.heap.size wr w1) :
    RelZ B k n (.slice (some ⟨g, 0, none⟩) n cap) w (.int .i64 ((k : Int) + (j : Int) + 1)) (.int .i64 ((j : Int) + 1)) (w1.setCell ⟨g, j, none⟩ (.string (mkOf (k + j)))) := by
  refine ⟨j + 1, l.set j (mkOf (k + j)), by omega, by simp, by simp; omega, by rw [List.length_set]; exact hl, fun m h => ?_, ?_, (ht.trans (Wrote.of_below h1)).setCell (p := ⟨g, j, none⟩) (.inr rfl) _⟩
  · rw [List.getElem?_set]
    by_cases e : j = m
    · subst e; rw [if_pos rfl, if_pos (by omega)]
    · rw [if_neg e]; exact hm m (by omega)
  · subst hl
    have := (World.ownsRow.stored (ho.below h1) j (.string (mkOf (k + j)))).1
    unfold OT
    rw [List.length_set, List.map_set]
    exact this
set_option maxRecDepth 100000 in
set_option maxHeartbeats 800000 in
theorem markStrs_any (B k : Nat) (v : Value) (l : List ByteArray) (w : World) (hv : OT B w v l) (h1 : 0 < k) (h2 : k + l.length < 1000000000000000000) :
    Calls Tryd.prog 73 #[v, .int .i64 k] w fun e w' => e = .returned (.int .i64 ((k + l.length : Nat) : Int)) ∧ OT B w' v (mkS k l.length) ∧ Wrote (mine v) w w' := by
  obtain ⟨a, cap, rfl⟩ := slice_own hv
  have H0 : Hid (RelZ B k l.length (.slice a l.length cap) w (.int .i64 k) (.int .i64 0) w) := ⟨0, l, Nat.zero_le _, rfl, by simp, rfl, fun m h => by omega, hv, Wrote.refl _ _⟩
  obtain ⟨n, hn⟩ : ∃ n, l.length = n := ⟨_, rfl⟩
  rw [hn] at H0 h2 ⊢
  clear hv hn
  go_enter Tryd.func73, Tryd.ntmps73
  go_wp2
  go_loopw [1, 5] (fun q i wr => RelZ B k n (.slice a n cap) w q i wr) (fun _ i _ => n - (intOf i).toNat)
  case atStart => exact H0.out
  case round =>
    clear H0
    obtain ⟨j, l', hj, rfl, rfl, hl', hm, ho, ht⟩ := hrel
    by_cases hlt : j < n
    · obtain ⟨g, cap', hsl, hBg, hgz⟩ := form_own ho (by omega)
      rw [hl'] at hsl
      simp only [Value.slice.injEq] at hsl
      obtain ⟨rfl, -, -⟩ := hsl
      have hlt' : (j : Int) < (n : Int) := by omega
      have HN : Hid (∀ w1, Below wr.heap.size wr w1 → RelZ B k n (.slice (some ⟨g, 0, none⟩) n cap) w (.int .i64 ((k : Int) + (j : Int) + 1)) (.int .i64 ((j : Int) + 1)) (w1.setCell ⟨g, j, none⟩ (.string (mkOf (k + j))))) := fun w1 h => RelZ.step hlt hl' hm ho ht h
      have HO : Hid (∀ w1, Below wr.heap.size wr w1 → (∃ o, w1.cell? ⟨g, j, none⟩ = some o) ∧ w1.frozen? ⟨g, j, none⟩ = false) := fun w1 h => cell_s (ho.below h) hl' j (by omega)
      clear hm ho ht hl'
      go_wp2_with (first
        | (go_at_call 92; refine (markText_any _ _ (by omega) (by omega)).mono ?_; rintro e w1 ⟨rfl, hb1⟩; obtain ⟨⟨o, ho⟩, hfo⟩ := HO.out w1 hb1))
      go_roundw
      case rel => simpa using HN.out w1 hb1
      case measure => simp [intOf]; omega
    · obtain rfl : j = n := by omega
      have HF : Hid (OT B wr (.slice a j cap) (mkS k j) ∧ Wrote (mine (.slice a j cap)) w wr) := by
        refine ⟨?_, ht⟩
        rw [show mkS k j = l' from ?_]; exact ho
        apply List.ext_getElem?
        intro i
        by_cases hi : i < j
        · rw [mkS_at _ _ _ hi, hm i hi]
        · rw [List.getElem?_eq_none (by rw [mkS_length]; omega), List.getElem?_eq_none (by omega)]
      clear hm ho ht hl'
      go_wp2
      go_ret
      exact ⟨rfl, HF.out.1, HF.out.2⟩
set_option maxRecDepth 100000 in
set_option maxHeartbeats 1600000 in
theorem heldStrs_any (k n : Nat) (v : Value) (w : World) (hv : SRow w v (mkS k n)) (h1 : 0 < k) (h2 : k + n < 1000000000000000000) :
    Calls Tryd.prog 94 #[v, .int .i64 k] w fun e w' => e = .returned (.int .i64 ((k + n : Nat) : Int)) ∧ Below w.heap.size w w' := by
  have H0 : Hid (RelI k n w (.int .i64 k) (.int .i64 0) w) := ⟨0, Nat.zero_le _, rfl, by simp, Below.refl _ _⟩
  obtain ⟨a, cap, rfl, hl, hc⟩ := hv
  rw [mkS_length] at hc hl ⊢
  unfold maxLen at hl
  go_enter Tryd.func94, Tryd.ntmps94
  go_wp2
  go_loopw [1, 5] (fun q i wr => RelI k n w q i wr) (fun _ i _ => n - (intOf i).toNat)
  case atStart => exact H0.out
  case round =>
    clear H0
    obtain ⟨j, hj, rfl, rfl, hbel⟩ := hrel
    by_cases hlt : j < n
    · obtain ⟨b, off, rfl, hbb, hcc⟩ := hc (by omega)
      have hlt' : (j : Int) < (n : Int) := by omega
      have c1 := hcc j _ (mkS_at k n j hlt)
      rw [← hbel.cell (p := ⟨b, off + j, none⟩) hbb] at c1
      obtain ⟨x, hx⟩ : ∃ x, k + j = x := ⟨_, rfl⟩
      have HX : Hid (k + j = x) := hx
      have hxb : x < 1000000000000000000 := by omega
      have hx0 : 0 < x := by omega
      rw [hx] at c1 ⊢
      have HB : Hid (Below w.heap.size w wr) := hbel
      have HC : Hid (∀ w1, Below wr.heap.size wr w1 → w1.cell? ⟨b, off + j, none⟩ = some (.string (mkOf x))) := fun w1 h => by
        rw [h.cell (p := ⟨b, off + j, none⟩) (by have := hbel.size; show b < _; omega)]; exact c1
      clear hcc hx hbel
      go_wp2
      go_region_with (go_at_call 92; refine (markText_any x _ (by omega) (by omega)).mono ?_; rintro e w1 ⟨rfl, hb1⟩; have c2 := HC.out w1 ⟨hb1.os, hb1.tape, hb1.output, hb1.size, hb1.block⟩)
      all_goals
        go_wp2
        go_roundw
        case rel => exact ⟨j + 1, by omega, by go_num, by have := HX.out; have e1 : (x : Int) + 1 = ((k + (j + 1) : Nat) : Int) := (by omega); rw [e1], HB.out.drew.trans (hb1.mono HB.out.size)⟩
        case measure => simp [intOf]; omega
    · obtain rfl : j = n := by omega
      have HB : Hid (Below w.heap.size w wr) := hbel
      clear hbel
      go_wp2
      go_ret
      exact ⟨rfl, HB.out⟩
end Go.Proofs.YtkpjdmmgdmbmnaaDoor.IN
