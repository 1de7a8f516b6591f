/-
  When a disk is right, as the specification and as the program have it.
-/
import Derived.Test.YtfiabbfdnmldjaaS3
import Derived.Test.YtfiabbfdnmldjaaM9
namespace Go.Proofs.Ytfiabbfdnmldjaa.T0
open Go.RowKit
open Go.Proofs.Ytfiabbfdnmldjaa.C0 Go.Proofs.Ytfiabbfdnmldjaa.S0 Go.Proofs.Ytfiabbfdnmldjaa.S1 Go.Proofs.Ytfiabbfdnmldjaa.S3
open Go.Proofs.Ytfiabbfdnmldjaa.Dk (rightB right_iff right_no)

set_option maxRecDepth 100000 in
theorem is_yes (n lo hi : Int) (w : World) (h1 : lo ≤ n) (h2 : n ≤ hi) : Calls Try.prog 20 #[.int .i64 n, .int .i64 lo, .int .i64 hi] w fun e w' => e = .returned (.bool true) ∧ w' = w := by
  go_enter Try.func20, Try.ntmps20
  go_wp2
  go_ret
  exact ⟨rfl, rfl⟩
set_option maxRecDepth 100000 in
theorem is_no (n lo hi : Int) (w : World) (h : ¬ (lo ≤ n ∧ n ≤ hi)) : Calls Try.prog 20 #[.int .i64 n, .int .i64 lo, .int .i64 hi] w fun e w' => e = .returned (.bool false) ∧ w' = w := by
  by_cases h1 : lo ≤ n
  · have h2 : ¬ n ≤ hi := fun q => h ⟨h1, q⟩
    clear h
    go_enter Try.func20, Try.ntmps20
    go_wp2
    go_ret
    exact ⟨rfl, rfl⟩
  · clear h
    go_enter Try.func20, Try.ntmps20
    go_wp2
    go_ret
    exact ⟨rfl, rfl⟩

def RelA (ss : List ByteArray) (w : World) (i : Value) (wr : World) : Prop := ∃ k : Nat, k ≤ ss.length ∧ i = .int .i64 k ∧ (∀ s ∈ ss.take k, s.size ≤ 64) ∧ wr = w
def RelB (n : Nat) (ps : List Pend) (w : World) (i : Value) (wr : World) : Prop := ∃ k : Nat, k ≤ ps.length ∧ i = .int .i64 k ∧ (∀ p ∈ ps.take k, 0 ≤ p.1 ∧ p.1 < n ∧ p.2.size ≤ 64) ∧ Below w.heap.size w wr
theorem step_take {α : Type} {l : List α} {k : Nat} {x : α} {P : α → Prop} (h : l[k]? = some x) (hP : ∀ y ∈ l.take k, P y) (hx : P x) : ∀ y ∈ l.take (k + 1), P y := by
  rw [get_take_succ l k x h]
  intro y hy
  rcases List.mem_append.1 hy with q | q
  · exact hP y q
  · simp at q; subst q; exact hx
set_option maxRecDepth 100000 in
set_option maxHeartbeats 1600000 in
theorem right_spec (vs vp : Value) (ss : List ByteArray) (ps : List Pend) (w : World) (hs : Strs w vs ss) (hp : Pends w vp ps) (hz : ∀ s ∈ ss, s.size ≤ maxLen) (hzp : ∀ p ∈ ps, p.2.size ≤ maxLen) :
    Calls Try.prog 11 #[.agg #[vs, vp]] w fun e w' => e = .returned (.bool (rightB ss ps)) ∧ Below w.heap.size w w' := by
  have hal : ∀ o : Obj, Below w.heap.size w (w.alloc o) := fun o => (Below.refl _ _).alloc (Nat.le_refl _) _
  obtain ⟨a, cap, rfl, hl, hc⟩ := hs
  obtain ⟨a2, cap2, rfl, hl2, hc2⟩ := hp
  unfold maxLen at hl hl2 hz hzp
  by_cases hA : 1 ≤ ss.length ∧ ss.length ≤ 64
  case neg =>
    have hR : rightB ss ps = false := right_no (fun q => hA ⟨q.1, q.2.1⟩)
    rw [hR]
    go_enter Try.func11, Try.ntmps11
    go_wp2_with (first
      | (go_at_call 20; refine (is_no _ _ _ _ (by omega)).mono ?_; rintro e w1 ⟨rfl, rfl⟩))
    go_ret
    exact ⟨rfl, hal _⟩
  obtain ⟨hA1, hA2⟩ := hA
  by_cases hB : 200 < ps.length
  · have hR : rightB ss ps = false := right_no (fun q => by have := q.2.2.1; omega)
    rw [hR]
    have hB' : (200 : Int) < (ps.length : Int) := by omega
    go_enter Try.func11, Try.ntmps11
    go_wp2_with (first
      | (go_at_call 20; refine (is_yes _ _ _ _ (by omega) (by omega)).mono ?_; rintro e w1 ⟨rfl, rfl⟩))
    go_ret
    exact ⟨rfl, hal _⟩
  have hB' : ¬ (200 : Int) < (ps.length : Int) := by omega
  obtain ⟨b, off, rfl, hbb, hcc⟩ := hc (by omega)
  clear hc
  have H0 : ∀ W, Hid (RelA ss W (.int .i64 0) W) := fun W => ⟨0, Nat.zero_le _, rfl, by simp, rfl⟩
  have H1 : ∀ W, Hid (RelB ss.length ps W (.int .i64 0) W) := fun W => ⟨0, Nat.zero_le _, rfl, by simp, Below.refl _ _⟩
  go_enter Try.func11, Try.ntmps11
  go_wp2_with (first
    | (go_at_call 20; refine (is_yes _ _ _ _ (by omega) (by omega)).mono ?_; rintro e w1 ⟨rfl, rfl⟩))
  go_loopw [3] (fun i wr => RelA ss (w.alloc (.cells #[.slice (some ⟨b, off, none⟩) ss.length cap, .slice a2 ps.length cap2] 30)) i wr) (fun i _ => ss.length - (intOf i).toNat)
  case atStart => exact (H0 _).out
  case round =>
    obtain ⟨k, hk, rfl, hrs, rfl⟩ := hrel
    by_cases hlt : k < ss.length
    · have hlt' : (k : Int) < (ss.length : Int) := by omega
      obtain ⟨s, hs⟩ : ∃ s, ss[k]? = some s := ⟨_, List.getElem?_eq_getElem hlt⟩
      have c0 := hcc k s hs
      have hsz := hz s (List.mem_of_getElem? hs)
      have HS : Hid (ss[k]? = some s) := hs
      have HR : Hid (∀ s ∈ ss.take k, s.size ≤ 64) := hrs
      rw [← (hal (.cells #[.slice (some ⟨b, off, none⟩) ss.length cap, .slice a2 ps.length cap2] 30)).cell (p := ⟨b, off + k, none⟩) hbb] at c0
      clear hs hrs
      by_cases h64 : 64 < s.size
      · have h64' : (64 : Int) < (s.size : Int) := by omega
        have HF : Hid (rightB ss ps = false) := right_no (fun q => by have := q.2.2.2.1 s (List.mem_of_getElem? HS.out); omega)
        go_wp2
        go_ret
        exact ⟨by rw [HF.out]; rfl, hal _⟩
      · have h64' : ¬ (64 : Int) < (s.size : Int) := by omega
        go_wp2
        go_roundw
        case rel => exact ⟨k + 1, by omega, by go_num, step_take HS.out HR.out (by omega), rfl⟩
        case measure => simp [intOf]; omega
    · have HR : Hid (∀ s ∈ ss, s.size ≤ 64) := by rw [List.take_of_length_le (by omega)] at hrs; exact hrs
      clear hrs
      go_wp2
      go_loopw [4] (fun i wr => RelB ss.length ps (w.alloc (.cells #[.slice (some ⟨b, off, none⟩) ss.length cap, .slice a2 ps.length cap2] 30)) i wr) (fun i _ => ps.length - (intOf i).toNat)
      case atStart => exact (H1 _).out
      case round =>
        obtain ⟨m, hm, rfl, hps, hbel⟩ := hrel
        have hbk : wr.heap[w.heap.size]? = some (.cells #[.slice (some ⟨b, off, none⟩) ss.length cap, .slice a2 ps.length cap2] 30) := (hbel.block _ (by simp)).trans (Go.Deep.blk_alloc_new _ _)
        obtain ⟨q0, q1, -, hwz⟩ := blk2 hbk
        clear hbk
        have HB : Hid (Below w.heap.size w wr) := (hal _).trans (hbel.mono (hal _).size)
        by_cases hlt2 : m < ps.length
        · have hlt2' : (m : Int) < (ps.length : Int) := by omega
          obtain ⟨b2, off2, rfl, hbb2, hcc2⟩ := hc2 (by omega)
          obtain ⟨p, hp⟩ : ∃ p, ps[m]? = some p := ⟨_, List.getElem?_eq_getElem hlt2⟩
          obtain ⟨c0, c1⟩ := hcc2 m p hp
          have hsz := hzp p (List.mem_of_getElem? hp)
          rw [← HB.out.cell (p := ⟨b2, off2 + m * 2, none⟩) hbb2] at c0
          rw [← HB.out.cell (p := ⟨b2, off2 + m * 2 + 1, none⟩) hbb2] at c1
          have HP : Hid (ps[m]? = some p) := hp
          have HPS : Hid (∀ p ∈ ps.take m, 0 ≤ p.1 ∧ p.1 < ss.length ∧ p.2.size ≤ 64) := hps
          have HBE := hbel
          have HBEL : Hid _ := HBE
          clear hp hps hcc2 hbel HBE
          by_cases hin : 0 ≤ p.1 ∧ p.1 ≤ (ss.length : Int) - 1
          · obtain ⟨hi0, hi1⟩ := hin
            by_cases h64 : 64 < p.2.size
            · have h64' : (64 : Int) < (p.2.size : Int) := by omega
              have HF : Hid (rightB ss ps = false) := right_no (fun q => by have := q.2.2.2.2 p (List.mem_of_getElem? HP.out); omega)
              go_wp2
              go_quiet ((go_at_call 20; exact Calls.quiet_of_same (is_yes _ _ _ _ (by omega) (by omega))))
              go_wp2
              go_ret
              exact ⟨by rw [HF.out]; rfl, drewN_below HB.out _⟩
            · have h64' : ¬ (64 : Int) < (p.2.size : Int) := by omega
              go_wp2
              go_quiet ((go_at_call 20; exact Calls.quiet_of_same (is_yes _ _ _ _ (by omega) (by omega))))
              go_wp2
              go_roundw
              case rel => exact ⟨m + 1, by omega, by go_num, step_take HP.out HPS.out ⟨by omega, by omega, by omega⟩, drewN_below HBEL.out _⟩
              case measure => simp [intOf]; omega
          · have HF : Hid (rightB ss ps = false) := right_no (fun q => by have := q.2.2.2.2 p (List.mem_of_getElem? HP.out); omega)
            go_wp2
            go_quiet ((go_at_call 20; exact Calls.quiet_of_same (is_no _ _ _ _ (by omega))))
            go_wp2
            go_ret
            exact ⟨by rw [HF.out]; rfl, drewN_below HB.out _⟩
        · have HF : Hid (rightB ss ps = true) := by
            rw [List.take_of_length_le (by omega)] at hps
            exact (right_iff _ _).2 ⟨hA1, hA2, by omega, HR.out, hps⟩
          clear hps hbel
          go_wp2
          go_ret
          exact ⟨by rw [HF.out]; rfl, HB.out⟩
end Go.Proofs.Ytfiabbfdnmldjaa.T0
