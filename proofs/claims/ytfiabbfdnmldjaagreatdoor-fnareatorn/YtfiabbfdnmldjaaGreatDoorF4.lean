/-
  What lies in the laws' variables on areas: what a call told; bounds.
-/
import Derived.Test.YtfiabbfdnmldjaaGreatDoorF0
import Derived.Test.YtfiabbfdnmldjaaGreatDoorX2
import Derived.Test.YtfiabbfdnmldjaaGreatDoorV6
import Derived.Test.YtfiabbfdnmldjaaGreatDoorPN
import Derived.Test.YtfiabbfdnmldjaaGreatDoorE5
namespace Go.Proofs.YtfiabbfdnmldjaaGreatDoor.F4
open Go.RowKit
open Go.Proofs.YtfiabbfdnmldjaaGreatDoor.C0 Go.Proofs.YtfiabbfdnmldjaaGreatDoor.D7 Go.Proofs.YtfiabbfdnmldjaaGreatDoor.D8 Go.Proofs.YtfiabbfdnmldjaaGreatDoor.S0 Go.Proofs.YtfiabbfdnmldjaaGreatDoor.S1 Go.Proofs.YtfiabbfdnmldjaaGreatDoor.S2 Go.Proofs.YtfiabbfdnmldjaaGreatDoor.O1 Go.Proofs.YtfiabbfdnmldjaaGreatDoor.T2 Go.Proofs.YtfiabbfdnmldjaaGreatDoor.T4 Go.Proofs.YtfiabbfdnmldjaaGreatDoor.T5 Go.Proofs.YtfiabbfdnmldjaaGreatDoor.U0 Go.Proofs.YtfiabbfdnmldjaaGreatDoor.U4 Go.Proofs.YtfiabbfdnmldjaaGreatDoor.U5 Go.Proofs.YtfiabbfdnmldjaaGreatDoor.V0 Go.Proofs.YtfiabbfdnmldjaaGreatDoor.V3 Go.Proofs.YtfiabbfdnmldjaaGreatDoor.V4 Go.Proofs.YtfiabbfdnmldjaaGreatDoor.W1 Go.Proofs.YtfiabbfdnmldjaaGreatDoor.W2 Go.Proofs.YtfiabbfdnmldjaaGreatDoor.E5
open Go.Proofs.YtfiabbfdnmldjaaGreatDoor.Dk (Out ill St runS doSt rightB right_iff)
theorem runS_ill : ∀ (l : List St) (ss : List ByteArray) (ps : List Pend), ¬ (runS ss ps l).k = 0 → (runS ss ps l).ss = [] ∧ (runS ss ps l).ps = []
  | [], _, _, h => absurd rfl h
  | s :: l, ss, ps, h => by
    have e : runS ss ps (s :: l) = if (doSt ss ps s).k = 0 then runS (doSt ss ps s).ss (doSt ss ps s).ps l else ill (doSt ss ps s).k := rfl
    by_cases g : (doSt ss ps s).k = 0
    · rw [e, if_pos g] at h ⊢
      exact runS_ill l _ _ h
    · rw [e, if_neg g]; exact ⟨rfl, rfl⟩
/-- A result's bounds. -/
def FitA (o : AOut) : Prop := (∀ s ∈ o.ss, s.size ≤ maxLen) ∧ (∀ q ∈ o.ps, q.2.size ≤ maxLen)
theorem fitA_of {o : AOut} (h1 : o.k = 0 → rightB o.ss o.ps = true) (h2 : ¬ o.k = 0 → o.ss = [] ∧ o.ps = []) : FitA o := by
  by_cases hk : o.k = 0
  · exact ⟨(small_sizes (h1 hk)).1, (small_sizes (h1 hk)).2⟩
  · obtain ⟨e1, e2⟩ := h2 hk
    exact ⟨by rw [e1]; simp, by rw [e2]; simp⟩
theorem put_fit (ss : List ByteArray) (ps : List Pend) (t : ByteArray) (n : Int) : FitA (putA ss ps t n) := by
  refine fitA_of F0.put_right (fun h => ?_)
  unfold putA at h ⊢
  split
  · exact ⟨rfl, rfl⟩
  · rename_i h1
    rw [if_neg h1] at h
    split
    · rename_i h2
      rw [if_pos h2] at h
      split
      · exact ⟨rfl, rfl⟩
      · rename_i h3
        rw [if_neg h3] at h
        exact runS_ill _ _ _ h
    · exact ⟨rfl, rfl⟩
theorem form_fit (ss : List ByteArray) (ps : List Pend) : FitA (formA ss ps) := by
  refine fitA_of (fun h => by obtain ⟨-, f2, f3⟩ := form_read h; rw [f2]; exact f3) (fun h => ?_)
  show (formO ss ps).ss = [] ∧ (formO ss ps).ps = []
  have h' : ¬ (formO ss ps).k = 0 := h
  unfold formO at h' ⊢
  split
  · exact ⟨rfl, rfl⟩
  · rename_i h1
    rw [if_neg h1] at h'
    split
    · exact ⟨rfl, rfl⟩
    · rename_i h2
      rw [if_neg h2] at h'
      exact runS_ill _ _ _ h'
/-- What a call of this layer told, in a variable. -/
structure OA (W : World) (Y : Nat) (o : AOut) (f : Option Addr) (d : Nat) (f' : Option Addr) (d' : Nat) : Prop where
  loc : W.heap[Y]? = some (.cells #[.slice f o.ss.length d, .slice f' o.ps.length d', .string o.t, .int .i64 o.g, .int .i64 o.k] 31)
  hs : Strs W (.slice f o.ss.length d) o.ss
  hp : Pends W (.slice f' o.ps.length d') o.ps
theorem OA.below {W w' : World} {Y d d' : Nat} {f f' : Option Addr} {o : AOut} (h : OA W Y o f d f' d') (hb : Below W.heap.size W w') : OA w' Y o f d f' d' := ⟨carry h.loc hb, h.hs.below hb, h.hp.below hb⟩
theorem OA.lay {B : Nat} {W : World} {d d' : Nat} {f f' : Option Addr} {o : AOut} (h : ODisk B W (.slice f o.ss.length d) (.slice f' o.ps.length d') o.ss o.ps) : OA (W.alloc (.cells #[.slice f o.ss.length d, .slice f' o.ps.length d', .string o.t, .int .i64 o.g, .int .i64 o.k] 31)) W.heap.size o f d f' d' :=
  ⟨heap_alloc_new _ _, h.1.strs.alloc _, h.2.pends.alloc _⟩
/-- A result, and that only memory was made since W. -/
def ARes (W : World) (o : AOut) (e : Ending) (w' : World) : Prop :=
  ∃ (f : Option Addr) (d : Nat) (f' : Option Addr) (d' : Nat), e = .returned (.agg #[.slice f o.ss.length d, .slice f' o.ps.length d', .string o.t, .int .i64 o.g, .int .i64 o.k]) ∧ Strs w' (.slice f o.ss.length d) o.ss ∧ Pends w' (.slice f' o.ps.length d') o.ps ∧ Below W.heap.size W w'
theorem ares_of {W x : World} {k : FuncId} {args : Array Value} {o o' : AOut} (e : o = o') (hb : Below W.heap.size W x) (h : Calls Tryz.prog k args x fun e w' => AT x o e w') : Calls Tryz.prog k args x fun e w' => ARes W o' e w' := by
  subst e
  exact h.mono (fun _ _ ⟨f, d, f', d', he, ho, hx⟩ => ⟨f, d, f', d', he, ho.1.strs, ho.2.pends, bel2 hb hx⟩)
theorem num_of {W x : World} {k : FuncId} {args : Array Value} {n : Nat} (hb : Below W.heap.size W x) (h : Calls Tryz.prog k args x fun e w' => e = .returned (.int .i64 (n : Nat)) ∧ Below x.heap.size x w') : Calls Tryz.prog k args x fun e w' => e = .returned (.int .i64 (n : Nat)) ∧ Below W.heap.size W w' :=
  h.mono (fun _ _ ⟨he, hx⟩ => ⟨he, bel2 hb hx⟩)
set_option maxRecDepth 100000 in
set_option maxHeartbeats 1600000 in
theorem lwArea_any (vs vp us up : Value) (t : ByteArray) (g k : Int) (ss : List ByteArray) (ps : List Pend) (w : World) (h1 : Strs w vs ss) (h2 : Pends w vp ps) (h3 : Strs w us ss) (h4 : Pends w up ps) :
    Calls Tryz.prog 12 #[.agg #[vs, vp, .string t, .int .i64 g, .int .i64 k], .agg #[us, up, .string t, .int .i64 g, .int .i64 k]] w fun e w' => e = .returned (.bool true) ∧ Below w.heap.size w w' := by
  obtain ⟨k0, k1, b0, z0⟩ := T5.k_box w (.cells #[vs, vp, .string t, .int .i64 g, .int .i64 k] 31) (.cells #[us, up, .string t, .int .i64 g, .int .i64 k] 31)
  go_enter Tryz.func12, Tryz.ntmps12
  go_wp2_with fail
  refine (S8.lwDisk_any _ _ _ _ ss ps _ (h1.below b0) (h2.below b0) (h3.below b0) (h4.below b0)).mono ?_
  rintro e w1 ⟨rfl, hb1⟩
  go_wp2
  go_ret
  exact ⟨rfl, bel2 b0 hb1⟩
end Go.Proofs.YtfiabbfdnmldjaaGreatDoor.F4
