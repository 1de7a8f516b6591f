/-
  The laws' own measure, copies and comparing of shares.
-/
import Derived.Test.YtianmmonkllhpaaDoorSH
import Derived.Deep.OwnRows
import Derived.Deep.QuietTactic
import Derived.BigQuiet
import Derived.Deep.RegionWith
namespace Go.Proofs.YtianmmonkllhpaaDoor.SI
open Go.RowKit
open Go.Proofs.YtianmmonkllhpaaDoor.C0 Go.Proofs.YtianmmonkllhpaaDoor.SH
theorem get_take_succ {α : Type} (l : List α) (k : Nat) (x : α) (h : l[k]? = some x) : l.take (k + 1) = l.take k ++ [x] := by
  rw [List.take_add_one, h]; rfl
def okOne (s : ByteArray) (left r : Int) : Prop := r < 0 ∨ (0 ≤ r ∧ r ≤ left ∧ (s.size : Int) ≤ left)
theorem info_share : (Tryd.prog.info? 33).map (fun i => (i.zero, i.size, i.bytes)) = some (some (.agg #[.int .i64 0, .string ⟨#[]⟩]), 2, 24) := by kernel_rfl
theorem oshares_of_row {B b : Nat} {w : World} {l : List Sh} {f : Nat → Value} (h : w.rowIs b 33 (l.length * 2) f) (hf : ∀ i s, l[i]? = some s → f (i * 2) = .int .i64 s.1 ∧ f (i * 2 + 1) = .string s.2) (hB : B ≤ b) (hm : l.length ≤ maxLen) :
    OShares B w (.slice (some ⟨b, 0, none⟩) l.length l.length) l := by
  obtain ⟨c, hb, hn, hc⟩ := h
  refine ⟨cp_length l, .inr ⟨b, l.length, c, rfl, hB, hb, Nat.le_refl _, hm, by omega, ?_⟩⟩
  apply List.ext_getElem?
  intro i
  rw [List.getElem?_take]
  by_cases hi : i < l.length * 2
  · rw [if_pos hi]
    obtain ⟨s, hs⟩ : ∃ s, l[i / 2]? = some s := ⟨_, List.getElem?_eq_getElem (by omega)⟩
    have h1 := hf _ s hs
    have h2 := cp_at l _ s hs
    have h3 := hc i hi
    rcases Nat.mod_two_eq_zero_or_one i with h | h
    · have e : i / 2 * 2 = i := by omega
      rw [e] at h1 h2
      rw [h2.1]; rw [h1.1] at h3; simpa using h3
    · have e : i / 2 * 2 + 1 = i := by omega
      rw [e] at h1 h2
      rw [h2.2]; rw [h1.2] at h3; simpa using h3
  · rw [if_neg hi, List.getElem?_eq_none (by rw [cp_length]; omega)]
theorem run_make_row2 {P : Program} (t e : TypeId) (z : Value) (bytes : Nat) (ht : P.underlying t = some (.slice e)) (hinfo : (P.info? e).map (fun i => (i.zero, i.size, i.bytes)) = some (some z, 2, bytes))
    (kl kc : IntKind) (n : Nat) (hbytes : bytes * n ≤ 281474976710656) (h63 : n ≤ 9223372036854775807) (w : World) :
    (Instr.makeSlice t (.int kl (n : Int)) (.int kc (n : Int))).run P w = .ok (.slice (some ⟨w.heap.size, 0, none⟩) n n) (w.alloc (.cells (madeCells z.cells (n * 2)) e)) := by
  obtain ⟨i, hi, hzz⟩ := Option.map_eq_some_iff.1 hinfo
  simp only [Prod.mk.injEq] at hzz
  obtain ⟨hz, hs, hb⟩ := hzz
  have hb' : (i.bytes : Int) * (n : Int) ≤ 281474976710656 := by
    rw [hb]
    have h : ((bytes * n : Nat) : Int) ≤ 281474976710656 := by omega
    rwa [Int.natCast_mul] at h
  have hr := run_make (P := P) w t e i z ht hi hz kl kc n n (by omega) (Int.le_refl _) hb' (by omega)
  simp only [Int.toNat_natCast, hs] at hr
  exact hr
def RelU (l : List Sh) (w0 : World) (i : Value) (wr : World) : Prop :=
  ∃ (k : Nat) (f : Nat → Value), k ≤ l.length ∧ i = .int .i64 k ∧ wr.rowIs w0.heap.size 33 (l.length * 2) f ∧ (∀ j s, j < k → l[j]? = some s → f (j * 2) = .int .i64 s.1 ∧ f (j * 2 + 1) = .string s.2) ∧ Below w0.heap.size w0 wr
theorem RelU.step {l : List Sh} {w0 wr w1 : World} {k : Nat} {f : Nat → Value} {s : Sh} (hk : k < l.length) (hs : l[k]? = some s) (hrow : wr.rowIs w0.heap.size 33 (l.length * 2) f) (hf : ∀ j s, j < k → l[j]? = some s → f (j * 2) = .int .i64 s.1 ∧ f (j * 2 + 1) = .string s.2) (hb : Below w0.heap.size w0 wr) (h1 : Below wr.heap.size wr w1) :
    RelU l w0 (.int .i64 ((k : Int) + 1)) ((w1.setCell ⟨w0.heap.size, k * 2, none⟩ (.int .i64 s.1)).setCell ⟨w0.heap.size, k * 2 + 1, none⟩ (.string s.2)) := by
  have hlt := hrow.lt
  have hrow1 : w1.rowIs w0.heap.size 33 (l.length * 2) f := hrow.of_block (h1.block _ hlt)
  refine ⟨k + 1, _, by omega, by simp, (hrow1.set _ _).set _ _, fun j t hj ht => ?_, ((hb.trans (h1.mono hb.size)).setCell (Nat.le_refl _) _).setCell (Nat.le_refl _) _⟩
  show (if j * 2 = k * 2 + 1 then _ else if j * 2 = k * 2 then _ else f (j * 2)) = _ ∧ (if j * 2 + 1 = k * 2 + 1 then _ else if j * 2 + 1 = k * 2 then _ else f (j * 2 + 1)) = _
  by_cases e : j = k
  · subst e
    rw [hs] at ht; cases ht
    rw [if_neg (by omega), if_pos rfl, if_pos rfl]
    exact ⟨rfl, rfl⟩
  · rw [if_neg (by omega), if_neg (by omega), if_neg (by omega), if_neg (by omega)]
    exact hf j t (by omega) ht
def RelK (n : Nat) (w : World) (i : Value) (wr : World) : Prop := ∃ k : Nat, k ≤ n ∧ i = .int .i64 k ∧ Below w.heap.size w wr
theorem drewN_below {w wr : World} (h : Below w.heap.size w wr) : ∀ n, Below w.heap.size w (wr.drewN n)
  | 0 => h
  | n + 1 => (drewN_below h n).drew
set_option maxRecDepth 100000 in
theorem eqShare_any (at_ : Int) (s : ByteArray) (w : World) :
    Calls Tryd.prog 53 #[.agg #[.int .i64 at_, .string s], .agg #[.int .i64 at_, .string s]] w fun e w' => e = .returned (.bool true) ∧ Below w.heap.size w w' := by
  go_enter Tryd.func53, Tryd.ntmps53
  go_wp2
  go_ret
  exact ⟨rfl, ((Below.refl _ _).alloc (Nat.le_refl _) _).alloc (by simp) _⟩
set_option maxRecDepth 100000 in
set_option maxHeartbeats 1600000 in
theorem eqShares_any (v u : Value) (l : List Sh) (w : World) (hv : Shares w v l) (hu : Shares w u l) :
    Calls Tryd.prog 22 #[v, u] w fun e w' => e = .returned (.bool true) ∧ Below w.heap.size w w' := by
  obtain ⟨a, cap, rfl, hl, hc⟩ := hv
  obtain ⟨a2, cap2, rfl, _, hc2⟩ := hu
  unfold maxLen at hl
  have H0 : Hid (RelK l.length w (.int .i64 0) w) := ⟨0, Nat.zero_le _, rfl, Below.refl _ _⟩
  go_enter Tryd.func22, Tryd.ntmps22
  go_wp2
  go_loopw [5] (fun i wr => RelK l.length w i wr) (fun i _ => l.length - (intOf i).toNat)
  case atStart => exact H0.out
  case round =>
    clear H0
    obtain ⟨k, hk, rfl, hbel⟩ := hrel
    by_cases hlt : k < l.length
    · obtain ⟨b, off, rfl, hbb, hcc⟩ := hc (by omega)
      obtain ⟨b2, off2, rfl, hbb2, hcc2⟩ := hc2 (by omega)
      obtain ⟨s, hs⟩ : ∃ s, l[k]? = some s := ⟨_, List.getElem?_eq_getElem hlt⟩
      obtain ⟨c0, c1⟩ := hcc k s hs
      obtain ⟨c2, c3⟩ := hcc2 k s hs
      rw [← hbel.cell (p := ⟨b, off + k * 2, none⟩) hbb] at c0
      rw [← hbel.cell (p := ⟨b, off + k * 2 + 1, none⟩) hbb] at c1
      rw [← hbel.cell (p := ⟨b2, off2 + k * 2, none⟩) hbb2] at c2
      rw [← hbel.cell (p := ⟨b2, off2 + k * 2 + 1, none⟩) hbb2] at c3
      have hlt' : (k : Int) < (l.length : Int) := by omega
      clear hs hcc hcc2
      have HB : Hid (Below w.heap.size w wr) := hbel
      clear hbel
      go_wp2
      go_region_with (go_at_call 53; refine (eqShare_any _ _ _).mono ?_; rintro e w1 ⟨rfl, hb1⟩)
      all_goals
        go_wp2
        go_roundw
        case rel => exact ⟨k + 1, by omega, by go_num, HB.out.drew.trans (hb1.mono HB.out.size)⟩
        case measure => simp [intOf]; omega
    · go_wp2
      go_ret
      exact ⟨rfl, hbel⟩
end Go.Proofs.YtianmmonkllhpaaDoor.SI
