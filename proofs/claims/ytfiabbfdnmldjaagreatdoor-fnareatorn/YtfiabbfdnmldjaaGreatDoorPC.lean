/-
  O1 T0 T1: parts of the proof, one behind the other.
-/
import Derived.Test.YtfiabbfdnmldjaaGreatDoorPB
import Derived.Deep.Strs
import Derived.Deep.SlicePairs
import Derived.Lib.SmallJoins
import Derived.ProofKit
import Derived.OpenShut
import Derived.Test.YtfiabbfdnmldjaaGreatDoorPA
/-
  A disk that came in, opened: its rows of texts and of Pending. What a walk carries from world to world.
-/
namespace Go.Proofs.YtfiabbfdnmldjaaGreatDoor.O1
open Go.RowKit Go.WideShapes Go.Joins
open Go.Proofs.YtfiabbfdnmldjaaGreatDoor.C0 Go.Proofs.YtfiabbfdnmldjaaGreatDoor.S0

theorem spot_none {w : World} {a : Addr} {v : Value} (h : w.cell? (a.add 0) = some v) : ∃ b off, a = ⟨b, off, none⟩ ∧ b < w.heap.size := by
  obtain ⟨b, off, spot⟩ := a
  have hspot : spot = none := by simpa [Addr.add] using World.cell?_spot h
  subst hspot
  refine ⟨b, off, rfl, ?_⟩
  rcases Nat.lt_or_ge b w.heap.size with hh | hh
  · exact hh
  · simp [World.cell?, Addr.add, Array.getElem?_eq_none hh] at h
section
variable {W : World} {H : Type} {enc : TypeId × Value → H}
set_option maxRecDepth 100000 in
theorem strs_of {v : Value} {n : Nat} {y : DataW H × List MemPlace} (h : DataW.trod enc Tryz.prog W 0 (fun _ => true) true n 23 [v] = some y) : ∃ ss, Strs W v ss ∧ ∀ s ∈ ss, s.size ≤ maxLen := by
  rcases Go.Deep.open_strs Tryz.underlying23 Tryz.underlying9 (by kernel_rfl) h with ⟨hcs, _⟩ | ⟨a, len, cap, m, Sx, hcs, _, hl, hm, hmm, _, hcell⟩
  · simp at hcs; subst hcs
    exact ⟨[], ⟨none, 0, rfl, by simp, fun q => by simp at q⟩, by simp⟩
  · simp at hcs; subst hcs
    simp at hmm; subst hmm
    refine ⟨(List.range len).map Sx, ⟨some a, m, by simp, by simp; omega, fun q => ?_⟩, ?_⟩
    · simp at q
      obtain ⟨b, off, rfl, hb⟩ := spot_none (hcell 0 (by omega)).1
      refine ⟨b, off, rfl, hb, fun i s hs => ?_⟩
      have hi : i < len := by
        have := (List.getElem?_eq_some_iff.1 hs).1; simpa using this
      have := (hcell i (by omega)).1
      rw [add0] at this
      rw [this]
      simp [hi] at hs
      rw [hs]
    · intro s hs
      simp at hs
      obtain ⟨i, hi, rfl⟩ := hs
      exact (hcell i (by omega)).2
set_option maxRecDepth 100000 in
theorem pends_of {v : Value} {n : Nat} {y : DataW H × List MemPlace} (h : DataW.trod enc Tryz.prog W 0 (fun _ => true) true n 42 [v] = some y) : ∃ ps, Pends W v ps ∧ ∀ p ∈ ps, p.2.size ≤ maxLen := by
  rcases Go.Deep.open_slice_pairs Tryz.underlying42 Tryz.underlying125 (by kernel_rfl) rfl rfl (by kernel_rfl) (by kernel_rfl) h with ⟨hcs, _⟩ | ⟨a, len, cap, m, n', V0, V1, D0, D1, P0, P1, hcs, _, hl, hm, hmm, _, hcell⟩
  · simp at hcs; subst hcs
    exact ⟨[], ⟨none, 0, rfl, by simp, fun q => by simp at q⟩, by simp⟩
  · simp at hcs; subst hcs
    simp at hmm; subst hmm
    have each : ∀ i, i < m → ∃ p : Pend, V0 i = .int .i64 p.1 ∧ V1 i = .string p.2 ∧ p.2.size ≤ maxLen := fun i hi => by
      obtain ⟨_, _, h0, h1⟩ := hcell i hi
      obtain ⟨z, e0, _, _⟩ := DataW.trod_int Tryz.underlying2 h0
      obtain ⟨s, e1, _, hz⟩ := DataW.trod_string Tryz.underlying9 h1
      exact ⟨(z, s), by simpa using e0, by simpa using e1, hz⟩
    obtain ⟨Px, hP⟩ := Go.Deep.choose_lt each
    refine ⟨(List.range len).map Px, ⟨some a, m, by simp, by simp; omega, fun q => ?_⟩, ?_⟩
    · simp at q
      obtain ⟨b, off, rfl, hb⟩ := spot_none (by simpa using (hcell 0 (by omega)).1)
      refine ⟨b, off, rfl, hb, fun i s hs => ?_⟩
      have hi : i < len := by
        have := (List.getElem?_eq_some_iff.1 hs).1; simpa using this
      have h0 := (hcell i (by omega)).1
      have h1 := (hcell i (by omega)).2.1
      have hp := hP i (by omega)
      rw [add0] at h0 h1
      simp [hi] at hs
      rw [hp.1, hs] at h0
      rw [hp.2.1, hs] at h1
      exact ⟨h0, by rw [Nat.add_assoc]; exact h1⟩
    · intro s hs
      simp at hs
      obtain ⟨i, hi, rfl⟩ := hs
      exact (hP i (by omega)).2.2
set_option maxRecDepth 100000 in
theorem disk_of {r : Reach} {b0 : Nat} {v : Value} {d : DataW H} {p : List MemPlace} (hv : Value.okWide Tryz.prog W r b0 44 v) (h : DataW.Trod enc Tryz.prog W 0 (fun _ => true) true 44 v d p) :
    ∃ vs vp ss ps, v = .agg #[vs, vp] ∧ Strs W vs ss ∧ Pends W vp ps ∧ (∀ s ∈ ss, s.size ≤ maxLen) ∧ ∀ p ∈ ps, p.2.size ≤ maxLen := by
  obtain ⟨v0, v1, y0, y1, n, rfl, _, _, h0, h1⟩ := open_agg2 Tryz.underlying44 (by kernel_rfl) (by kernel_rfl) hv h
  obtain ⟨ss, hs, hz⟩ := strs_of h0
  obtain ⟨ps, hp, hzp⟩ := pends_of h1
  exact ⟨v0, v1, ss, ps, rfl, hs, hp, hz, hzp⟩
end
/-- A block that a walk has laid, behind what only makes memory. -/
theorem carry {w w' : World} {g : Nat} {x : Obj} (k : w.heap[g]? = some x) (hb : Below w.heap.size w w') : w'.heap[g]? = some x :=
  (hb.block g (Array.getElem?_eq_some_iff.1 k).1).trans k
theorem carryA {w : World} {g : Nat} {x : Obj} (k : w.heap[g]? = some x) (o : Obj) : (w.alloc o).heap[g]? = some x := carry k ((Below.refl _ _).alloc (Nat.le_refl _) o)
theorem carryW {S : Nat → Prop} {w w' : World} {g : Nat} {x : Obj} (k : w.heap[g]? = some x) (ht : Wrote S w w') (hS : ¬ S g) : w'.heap[g]? = some x :=
  (ht.block g (Array.getElem?_eq_some_iff.1 k).1 hS).trans k
theorem undrew {w w' : World} (h : Below w.drew.heap.size w.drew w') : Below w.heap.size w w' := ⟨h.os, h.tape, h.output, h.size, h.block⟩
theorem asz (w : World) (o : Obj) : (w.alloc o).heap.size = w.heap.size + 1 := by simp
theorem albel (w : World) (o : Obj) : Below w.heap.size w (w.alloc o) := (Below.refl _ _).alloc (Nat.le_refl _) _
theorem bel2 {a b c : World} (h : Below a.heap.size a b) (k : Below b.heap.size b c) : Below a.heap.size a c := h.trans (k.mono h.size)
theorem belW {S : Nat → Prop} {a b c : World} (h : Below a.heap.size a b) (k : Wrote S b c) (hS : ∀ g, S g → a.heap.size ≤ g) : Below a.heap.size a c := h.trans (k.below h.size hS)
theorem lt_some {w : World} {g : Nat} {x : Obj} (k : w.heap[g]? = some x) : g < w.heap.size := (Array.getElem?_eq_some_iff.1 k).1
/-- Where the rows of a disk of the call's own lie. -/
theorem _root_.Go.Proofs.YtfiabbfdnmldjaaGreatDoor.S0.ODisk.rows {B : Nat} {w : World} {vs vp : Value} {ss : List ByteArray} {ps : List Pend} (h : ODisk B w vs vp ss ps) : ∀ g, (vs.ownBlock = some g ∨ vp.ownBlock = some g) → B ≤ g ∧ g < w.heap.size := by
  intro g hg
  rcases hg with hg | hg
  · exact h.1.lt g hg
  · exact h.2.lt g hg
theorem _root_.Go.Proofs.YtfiabbfdnmldjaaGreatDoor.S0.ODisk.wrote {S : Nat → Prop} {B : Nat} {w w' : World} {vs vp : Value} {ss : List ByteArray} {ps : List Pend} (h : ODisk B w vs vp ss ps) (ht : Wrote S w w') (hS : ∀ g, S g → (vs.ownBlock = some g ∨ vp.ownBlock = some g) → False) : ODisk B w' vs vp ss ps :=
  ⟨h.1.touch ht (fun g hg hs => hS g hs (.inl hg)), h.2.touch ht (fun g hg hs => hS g hs (.inr hg))⟩
end Go.Proofs.YtfiabbfdnmldjaaGreatDoor.O1

/-
  When a disk is right, as the specification and as the program have it.
-/
namespace Go.Proofs.YtfiabbfdnmldjaaGreatDoor.T0
open Go.RowKit
open Go.Proofs.YtfiabbfdnmldjaaGreatDoor.C0 Go.Proofs.YtfiabbfdnmldjaaGreatDoor.S0 Go.Proofs.YtfiabbfdnmldjaaGreatDoor.S1 Go.Proofs.YtfiabbfdnmldjaaGreatDoor.S3
open Go.Proofs.YtfiabbfdnmldjaaGreatDoor.Dk (rightB right_iff right_no)

set_option maxRecDepth 100000 in
theorem is_yes (n lo hi : Int) (w : World) (h1 : lo ≤ n) (h2 : n ≤ hi) : Calls Tryz.prog 82 #[.int .i64 n, .int .i64 lo, .int .i64 hi] w fun e w' => e = .returned (.bool true) ∧ w' = w := by
  go_enter Tryz.func82, Tryz.ntmps82
  go_wp2
  go_ret
  exact ⟨rfl, rfl⟩
set_option maxRecDepth 100000 in
theorem is_no (n lo hi : Int) (w : World) (h : ¬ (lo ≤ n ∧ n ≤ hi)) : Calls Tryz.prog 82 #[.int .i64 n, .int .i64 lo, .int .i64 hi] w fun e w' => e = .returned (.bool false) ∧ w' = w := by
  by_cases h1 : lo ≤ n
  · have h2 : ¬ n ≤ hi := fun q => h ⟨h1, q⟩
    clear h
    go_enter Tryz.func82, Tryz.ntmps82
    go_wp2
    go_ret
    exact ⟨rfl, rfl⟩
  · clear h
    go_enter Tryz.func82, Tryz.ntmps82
    go_wp2
    go_ret
    exact ⟨rfl, rfl⟩

def RelA (ss : List ByteArray) (w : World) (i : Value) (wr : World) : Prop := ∃ k : Nat, k ≤ ss.length ∧ i = .int .i64 k ∧ (∀ s ∈ ss.take k, s.size ≤ 64) ∧ wr = w
def RelB (n : Nat) (ps : List Pend) (w : World) (i : Value) (wr : World) : Prop := ∃ k : Nat, k ≤ ps.length ∧ i = .int .i64 k ∧ (∀ p ∈ ps.take k, 0 ≤ p.1 ∧ p.1 < n ∧ p.2.size ≤ 64) ∧ Below w.heap.size w wr
theorem step_take {α : Type} {l : List α} {k : Nat} {x : α} {P : α → Prop} (h : l[k]? = some x) (hP : ∀ y ∈ l.take k, P y) (hx : P x) : ∀ y ∈ l.take (k + 1), P y := by
  rw [get_take_succ l k x h]
  intro y hy
  rcases List.mem_append.1 hy with q | q
  · exact hP y q
  · simp at q; subst q; exact hx
set_option maxRecDepth 100000 in
set_option maxHeartbeats 1600000 in
theorem right_spec (vs vp : Value) (ss : List ByteArray) (ps : List Pend) (w : World) (hs : Strs w vs ss) (hp : Pends w vp ps) (hz : ∀ s ∈ ss, s.size ≤ maxLen) (hzp : ∀ p ∈ ps, p.2.size ≤ maxLen) :
    Calls Tryz.prog 39 #[.agg #[vs, vp]] w fun e w' => e = .returned (.bool (rightB ss ps)) ∧ Below w.heap.size w w' := by
  have hal : ∀ o : Obj, Below w.heap.size w (w.alloc o) := fun o => (Below.refl _ _).alloc (Nat.le_refl _) _
  obtain ⟨a, cap, rfl, hl, hc⟩ := hs
  obtain ⟨a2, cap2, rfl, hl2, hc2⟩ := hp
  unfold maxLen at hl hl2 hz hzp
  by_cases hA : 1 ≤ ss.length ∧ ss.length ≤ 64
  case neg =>
    have hR : rightB ss ps = false := right_no (fun q => hA ⟨q.1, q.2.1⟩)
    rw [hR]
    go_enter Tryz.func39, Tryz.ntmps39
    go_wp2_with (first
      | (go_at_call 82; refine (is_no _ _ _ _ (by omega)).mono ?_; rintro e w1 ⟨rfl, rfl⟩))
    go_ret
    exact ⟨rfl, hal _⟩
  obtain ⟨hA1, hA2⟩ := hA
  by_cases hB : 200 < ps.length
  · have hR : rightB ss ps = false := right_no (fun q => by have := q.2.2.1; omega)
    rw [hR]
    have hB' : (200 : Int) < (ps.length : Int) := by omega
    go_enter Tryz.func39, Tryz.ntmps39
    go_wp2_with (first
      | (go_at_call 82; refine (is_yes _ _ _ _ (by omega) (by omega)).mono ?_; rintro e w1 ⟨rfl, rfl⟩))
    go_ret
    exact ⟨rfl, hal _⟩
  have hB' : ¬ (200 : Int) < (ps.length : Int) := by omega
  obtain ⟨b, off, rfl, hbb, hcc⟩ := hc (by omega)
  clear hc
  have H0 : ∀ W, Hid (RelA ss W (.int .i64 0) W) := fun W => ⟨0, Nat.zero_le _, rfl, by simp, rfl⟩
  have H1 : ∀ W, Hid (RelB ss.length ps W (.int .i64 0) W) := fun W => ⟨0, Nat.zero_le _, rfl, by simp, Below.refl _ _⟩
  go_enter Tryz.func39, Tryz.ntmps39
  go_wp2_with (first
    | (go_at_call 82; refine (is_yes _ _ _ _ (by omega) (by omega)).mono ?_; rintro e w1 ⟨rfl, rfl⟩))
  go_loopw [3] (fun i wr => RelA ss (w.alloc (.cells #[.slice (some ⟨b, off, none⟩) ss.length cap, .slice a2 ps.length cap2] 26)) i wr) (fun i _ => ss.length - (intOf i).toNat)
  case atStart => exact (H0 _).out
  case round =>
    obtain ⟨k, hk, rfl, hrs, rfl⟩ := hrel
    by_cases hlt : k < ss.length
    · have hlt' : (k : Int) < (ss.length : Int) := by omega
      obtain ⟨s, hs⟩ : ∃ s, ss[k]? = some s := ⟨_, List.getElem?_eq_getElem hlt⟩
      have c0 := hcc k s hs
      have hsz := hz s (List.mem_of_getElem? hs)
      have HS : Hid (ss[k]? = some s) := hs
      have HR : Hid (∀ s ∈ ss.take k, s.size ≤ 64) := hrs
      rw [← (hal (.cells #[.slice (some ⟨b, off, none⟩) ss.length cap, .slice a2 ps.length cap2] 26)).cell (p := ⟨b, off + k, none⟩) hbb] at c0
      clear hs hrs
      by_cases h64 : 64 < s.size
      · have h64' : (64 : Int) < (s.size : Int) := by omega
        have HF : Hid (rightB ss ps = false) := right_no (fun q => by have := q.2.2.2.1 s (List.mem_of_getElem? HS.out); omega)
        go_wp2
        go_ret
        exact ⟨by rw [HF.out]; rfl, hal _⟩
      · have h64' : ¬ (64 : Int) < (s.size : Int) := by omega
        go_wp2
        go_roundw
        case rel => exact ⟨k + 1, by omega, by go_num, step_take HS.out HR.out (by omega), rfl⟩
        case measure => simp [intOf]; omega
    · have HR : Hid (∀ s ∈ ss, s.size ≤ 64) := by rw [List.take_of_length_le (by omega)] at hrs; exact hrs
      clear hrs
      go_wp2
      go_loopw [4] (fun i wr => RelB ss.length ps (w.alloc (.cells #[.slice (some ⟨b, off, none⟩) ss.length cap, .slice a2 ps.length cap2] 26)) i wr) (fun i _ => ps.length - (intOf i).toNat)
      case atStart => exact (H1 _).out
      case round =>
        obtain ⟨m, hm, rfl, hps, hbel⟩ := hrel
        have hbk : wr.heap[w.heap.size]? = some (.cells #[.slice (some ⟨b, off, none⟩) ss.length cap, .slice a2 ps.length cap2] 26) := (hbel.block _ (by simp)).trans (Go.Deep.blk_alloc_new _ _)
        obtain ⟨q0, q1, -, hwz⟩ := blk2 hbk
        clear hbk
        have HB : Hid (Below w.heap.size w wr) := (hal _).trans (hbel.mono (hal _).size)
        by_cases hlt2 : m < ps.length
        · have hlt2' : (m : Int) < (ps.length : Int) := by omega
          obtain ⟨b2, off2, rfl, hbb2, hcc2⟩ := hc2 (by omega)
          obtain ⟨p, hp⟩ : ∃ p, ps[m]? = some p := ⟨_, List.getElem?_eq_getElem hlt2⟩
          obtain ⟨c0, c1⟩ := hcc2 m p hp
          have hsz := hzp p (List.mem_of_getElem? hp)
          rw [← HB.out.cell (p := ⟨b2, off2 + m * 2, none⟩) hbb2] at c0
          rw [← HB.out.cell (p := ⟨b2, off2 + m * 2 + 1, none⟩) hbb2] at c1
          have HP : Hid (ps[m]? = some p) := hp
          have HPS : Hid (∀ p ∈ ps.take m, 0 ≤ p.1 ∧ p.1 < ss.length ∧ p.2.size ≤ 64) := hps
          have HBE := hbel
          have HBEL : Hid _ := HBE
          clear hp hps hcc2 hbel HBE
          by_cases hin : 0 ≤ p.1 ∧ p.1 ≤ (ss.length : Int) - 1
          · obtain ⟨hi0, hi1⟩ := hin
            by_cases h64 : 64 < p.2.size
            · have h64' : (64 : Int) < (p.2.size : Int) := by omega
              have HF : Hid (rightB ss ps = false) := right_no (fun q => by have := q.2.2.2.2 p (List.mem_of_getElem? HP.out); omega)
              go_wp2
              go_quiet ((go_at_call 82; exact Calls.quiet_of_same (is_yes _ _ _ _ (by omega) (by omega))))
              go_wp2
              go_ret
              exact ⟨by rw [HF.out]; rfl, drewN_below HB.out _⟩
            · have h64' : ¬ (64 : Int) < (p.2.size : Int) := by omega
              go_wp2
              go_quiet ((go_at_call 82; exact Calls.quiet_of_same (is_yes _ _ _ _ (by omega) (by omega))))
              go_wp2
              go_roundw
              case rel => exact ⟨m + 1, by omega, by go_num, step_take HP.out HPS.out ⟨by omega, by omega, by omega⟩, drewN_below HBEL.out _⟩
              case measure => simp [intOf]; omega
          · have HF : Hid (rightB ss ps = false) := right_no (fun q => by have := q.2.2.2.2 p (List.mem_of_getElem? HP.out); omega)
            go_wp2
            go_quiet ((go_at_call 82; exact Calls.quiet_of_same (is_no _ _ _ _ (by omega))))
            go_wp2
            go_ret
            exact ⟨by rw [HF.out]; rfl, drewN_below HB.out _⟩
        · have HF : Hid (rightB ss ps = true) := by
            rw [List.take_of_length_le (by omega)] at hps
            exact (right_iff _ _).2 ⟨hA1, hA2, by omega, HR.out, hps⟩
          clear hps hbel
          go_wp2
          go_ret
          exact ⟨by rw [HF.out]; rfl, HB.out⟩
end Go.Proofs.YtfiabbfdnmldjaaGreatDoor.T0

/-
  When a disk is right, as the program has it.
-/
namespace Go.Proofs.YtfiabbfdnmldjaaGreatDoor.T1
open Go.RowKit
open Go.Proofs.YtfiabbfdnmldjaaGreatDoor.C0 Go.Proofs.YtfiabbfdnmldjaaGreatDoor.S0 Go.Proofs.YtfiabbfdnmldjaaGreatDoor.S1 Go.Proofs.YtfiabbfdnmldjaaGreatDoor.S3 Go.Proofs.YtfiabbfdnmldjaaGreatDoor.T0
open Go.Proofs.YtfiabbfdnmldjaaGreatDoor.Dk (rightB right_iff right_no)

set_option maxRecDepth 100000 in
theorem has_yes (a : Option Addr) (n cap : Nat) (vp : Value) (at_ : Int) (w : World) (h1 : 0 ≤ at_) (h2 : at_ < n) : Calls Tryz.prog 88 #[.agg #[.slice a n cap, vp], .int .i64 at_] w fun e w' => e = .returned (.bool true) ∧ Below w.heap.size w w' := by
  go_enter Tryz.func88, Tryz.ntmps88
  go_wp2
  go_ret
  exact ⟨rfl, (Below.refl _ _).alloc (Nat.le_refl _) _⟩
set_option maxRecDepth 100000 in
theorem has_no (a : Option Addr) (n cap : Nat) (vp : Value) (at_ : Int) (w : World) (h : ¬ (0 ≤ at_ ∧ at_ < n)) : Calls Tryz.prog 88 #[.agg #[.slice a n cap, vp], .int .i64 at_] w fun e w' => e = .returned (.bool false) ∧ Below w.heap.size w w' := by
  by_cases h1 : 0 ≤ at_
  · have h2 : ¬ at_ < n := fun q => h ⟨h1, q⟩
    clear h
    go_enter Tryz.func88, Tryz.ntmps88
    go_wp2
    go_ret
    exact ⟨rfl, (Below.refl _ _).alloc (Nat.le_refl _) _⟩
  · clear h
    go_enter Tryz.func88, Tryz.ntmps88
    go_wp2
    go_ret
    exact ⟨rfl, (Below.refl _ _).alloc (Nat.le_refl _) _⟩
set_option maxRecDepth 100000 in
set_option maxHeartbeats 1600000 in
theorem right_impl (vs vp : Value) (ss : List ByteArray) (ps : List Pend) (w : World) (hs : Strs w vs ss) (hp : Pends w vp ps) (hz : ∀ s ∈ ss, s.size ≤ maxLen) (hzp : ∀ p ∈ ps, p.2.size ≤ maxLen) :
    Calls Tryz.prog 50 #[.agg #[vs, vp]] w fun e w' => e = .returned (.bool (rightB ss ps)) ∧ Below w.heap.size w w' := by
  have hal : ∀ o : Obj, Below w.heap.size w (w.alloc o) := fun o => (Below.refl _ _).alloc (Nat.le_refl _) _
  obtain ⟨a, cap, rfl, hl, hc⟩ := hs
  obtain ⟨a2, cap2, rfl, hl2, hc2⟩ := hp
  unfold maxLen at hl hl2 hz hzp
  by_cases hA0 : 1 ≤ ss.length
  case neg =>
    have hR : rightB ss ps = false := right_no (fun q => hA0 q.1)
    rw [hR]
    have hA' : (ss.length : Int) < 1 := by omega
    go_enter Tryz.func50, Tryz.ntmps50
    go_wp2
    go_ret
    exact ⟨rfl, hal _⟩
  have hA1 : ¬ (ss.length : Int) < 1 := by omega
  by_cases hA2 : 64 < ss.length
  · have hR : rightB ss ps = false := right_no (fun q => by have := q.2.1; omega)
    rw [hR]
    have hA' : (64 : Int) < (ss.length : Int) := by omega
    go_enter Tryz.func50, Tryz.ntmps50
    go_wp2
    go_ret
    exact ⟨rfl, hal _⟩
  have hA3 : ¬ (64 : Int) < (ss.length : Int) := by omega
  by_cases hB : 200 < ps.length
  · have hR : rightB ss ps = false := right_no (fun q => by have := q.2.2.1; omega)
    rw [hR]
    have hB' : (200 : Int) < (ps.length : Int) := by omega
    go_enter Tryz.func50, Tryz.ntmps50
    go_wp2
    go_ret
    exact ⟨rfl, hal _⟩
  have hB' : ¬ (200 : Int) < (ps.length : Int) := by omega
  obtain ⟨b, off, rfl, hbb, hcc⟩ := hc (by omega)
  clear hc
  have H0 : ∀ W, Hid (RelA ss W (.int .i64 0) W) := fun W => ⟨0, Nat.zero_le _, rfl, by simp, rfl⟩
  have H1 : ∀ W, Hid (RelB ss.length ps W (.int .i64 0) W) := fun W => ⟨0, Nat.zero_le _, rfl, by simp, Below.refl _ _⟩
  go_enter Tryz.func50, Tryz.ntmps50
  go_wp2
  go_loopw [26] (fun i wr => RelA ss (w.alloc (.cells #[.slice (some ⟨b, off, none⟩) ss.length cap, .slice a2 ps.length cap2] 26)) i wr) (fun i _ => ss.length - (intOf i).toNat)
  case atStart => exact (H0 _).out
  case round =>
    obtain ⟨k, hk, rfl, hrs, rfl⟩ := hrel
    by_cases hlt : k < ss.length
    · have hlt' : (k : Int) < (ss.length : Int) := by omega
      obtain ⟨s, hs⟩ : ∃ s, ss[k]? = some s := ⟨_, List.getElem?_eq_getElem hlt⟩
      have c0 := hcc k s hs
      have hsz := hz s (List.mem_of_getElem? hs)
      have HS : Hid (ss[k]? = some s) := hs
      have HR : Hid (∀ s ∈ ss.take k, s.size ≤ 64) := hrs
      rw [← (hal (.cells #[.slice (some ⟨b, off, none⟩) ss.length cap, .slice a2 ps.length cap2] 26)).cell (p := ⟨b, off + k, none⟩) hbb] at c0
      clear hs hrs
      by_cases h64 : 64 < s.size
      · have h64' : (64 : Int) < (s.size : Int) := by omega
        have HF : Hid (rightB ss ps = false) := right_no (fun q => by have := q.2.2.2.1 s (List.mem_of_getElem? HS.out); omega)
        go_wp2
        go_ret
        exact ⟨by rw [HF.out]; rfl, hal _⟩
      · have h64' : ¬ (64 : Int) < (s.size : Int) := by omega
        go_wp2
        go_roundw
        case rel => exact ⟨k + 1, by omega, by go_num, step_take HS.out HR.out (by omega), rfl⟩
        case measure => simp [intOf]; omega
    · have HR : Hid (∀ s ∈ ss, s.size ≤ 64) := by rw [List.take_of_length_le (by omega)] at hrs; exact hrs
      clear hrs
      go_wp2
      go_loopw [37] (fun i wr => RelB ss.length ps (w.alloc (.cells #[.slice (some ⟨b, off, none⟩) ss.length cap, .slice a2 ps.length cap2] 26)) i wr) (fun i _ => ps.length - (intOf i).toNat)
      case atStart => exact (H1 _).out
      case round =>
        obtain ⟨m, hm, rfl, hps, hbel⟩ := hrel
        have hbk : wr.heap[w.heap.size]? = some (.cells #[.slice (some ⟨b, off, none⟩) ss.length cap, .slice a2 ps.length cap2] 26) := (hbel.block _ (by simp)).trans (Go.Deep.blk_alloc_new _ _)
        obtain ⟨q0, q1, -, hwz⟩ := blk2 hbk
        clear hbk
        have HB : Hid (Below w.heap.size w wr) := (hal _).trans (hbel.mono (hal _).size)
        by_cases hlt2 : m < ps.length
        · have hlt2' : (m : Int) < (ps.length : Int) := by omega
          obtain ⟨b2, off2, rfl, hbb2, hcc2⟩ := hc2 (by omega)
          obtain ⟨p, hp⟩ : ∃ p, ps[m]? = some p := ⟨_, List.getElem?_eq_getElem hlt2⟩
          obtain ⟨c0, c1⟩ := hcc2 m p hp
          have hsz := hzp p (List.mem_of_getElem? hp)
          rw [← HB.out.cell (p := ⟨b2, off2 + m * 2, none⟩) hbb2] at c0
          rw [← HB.out.cell (p := ⟨b2, off2 + m * 2 + 1, none⟩) hbb2] at c1
          have HP : Hid (ps[m]? = some p) := hp
          have HPS : Hid (∀ p ∈ ps.take m, 0 ≤ p.1 ∧ p.1 < ss.length ∧ p.2.size ≤ 64) := hps
          have HBEL : Hid (Below (w.alloc (.cells #[.slice (some ⟨b, off, none⟩) ss.length cap, .slice (some ⟨b2, off2, none⟩) ps.length cap2] 26)).heap.size (w.alloc (.cells #[.slice (some ⟨b, off, none⟩) ss.length cap, .slice (some ⟨b2, off2, none⟩) ps.length cap2] 26)) wr) := hbel
          clear hp hps hcc2 hbel
          have hal2 : Below wr.heap.size wr (wr.alloc (.cells #[.int .i64 p.1, .string p.2] 82)) := (Below.refl _ _).alloc (Nat.le_refl _) _
          by_cases hin : 0 ≤ p.1 ∧ p.1 < (ss.length : Int)
          · obtain ⟨hi0, hi1⟩ := hin
            by_cases h64 : 64 < p.2.size
            · have h64' : (64 : Int) < (p.2.size : Int) := by omega
              have HF : Hid (rightB ss ps = false) := right_no (fun q => by have := q.2.2.2.2 p (List.mem_of_getElem? HP.out); omega)
              go_wp2_with (first
                | (go_at_call 88; refine (has_yes _ _ _ _ _ _ hi0 hi1).mono ?_; rintro e w1 ⟨rfl, hb1⟩; obtain ⟨hc1, hf1⟩ := bcell hb1))
              go_ret
              exact ⟨by rw [HF.out]; rfl, HB.out.trans ((hal2.trans (hb1.mono hal2.size)).mono HB.out.size)⟩
            · have h64' : ¬ (64 : Int) < (p.2.size : Int) := by omega
              go_wp2_with (first
                | (go_at_call 88; refine (has_yes _ _ _ _ _ _ hi0 hi1).mono ?_; rintro e w1 ⟨rfl, hb1⟩; obtain ⟨hc1, hf1⟩ := bcell hb1))
              go_roundw
              case rel => exact ⟨m + 1, by omega, by go_num, step_take HP.out HPS.out ⟨by omega, by omega, by omega⟩, HBEL.out.trans ((hal2.trans (hb1.mono hal2.size)).mono HBEL.out.size)⟩
              case measure => simp [intOf]; omega
          · have HF : Hid (rightB ss ps = false) := right_no (fun q => by have := q.2.2.2.2 p (List.mem_of_getElem? HP.out); omega)
            go_wp2_with (first
              | (go_at_call 88; refine (has_no _ _ _ _ _ _ hin).mono ?_; rintro e w1 ⟨rfl, hb1⟩; obtain ⟨hc1, hf1⟩ := bcell hb1))
            go_ret
            exact ⟨by rw [HF.out]; rfl, HB.out.trans ((hal2.trans (hb1.mono hal2.size)).mono HB.out.size)⟩
        · have HF : Hid (rightB ss ps = true) := by
            rw [List.take_of_length_le (by omega)] at hps
            exact (right_iff _ _).2 ⟨by omega, by omega, by omega, HR.out, hps⟩
          clear hps hbel
          go_wp2
          go_ret
          exact ⟨by rw [HF.out]; rfl, HB.out⟩
end Go.Proofs.YtfiabbfdnmldjaaGreatDoor.T1
