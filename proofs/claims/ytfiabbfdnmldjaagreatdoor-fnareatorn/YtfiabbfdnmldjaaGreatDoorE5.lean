/-
  What lies in the law's variables: disks, results.
-/
import Derived.Test.YtfiabbfdnmldjaaGreatDoorPQ
import Derived.Test.YtfiabbfdnmldjaaGreatDoorPE
import Derived.Test.YtfiabbfdnmldjaaGreatDoorPN
namespace Go.Proofs.YtfiabbfdnmldjaaGreatDoor.E5
open Go.RowKit
open Go.Proofs.YtfiabbfdnmldjaaGreatDoor.C0 Go.Proofs.YtfiabbfdnmldjaaGreatDoor.D0 Go.Proofs.YtfiabbfdnmldjaaGreatDoor.D6 Go.Proofs.YtfiabbfdnmldjaaGreatDoor.D7 Go.Proofs.YtfiabbfdnmldjaaGreatDoor.D8 Go.Proofs.YtfiabbfdnmldjaaGreatDoor.E1 Go.Proofs.YtfiabbfdnmldjaaGreatDoor.S0 Go.Proofs.YtfiabbfdnmldjaaGreatDoor.S1 Go.Proofs.YtfiabbfdnmldjaaGreatDoor.S2 Go.Proofs.YtfiabbfdnmldjaaGreatDoor.O1 Go.Proofs.YtfiabbfdnmldjaaGreatDoor.T2 Go.Proofs.YtfiabbfdnmldjaaGreatDoor.T4 Go.Proofs.YtfiabbfdnmldjaaGreatDoor.T5 Go.Proofs.YtfiabbfdnmldjaaGreatDoor.TC
open Go.Proofs.YtfiabbfdnmldjaaGreatDoor.Dk (Out ill writeR flushR readR crashR rightB right_iff write_ok flush_ok read_data)
theorem write_out (ss : List ByteArray) (ps : List Pend) (i : Int) (d : ByteArray) : ((writeR ss ps i d).k = 0 → rightB (writeR ss ps i d).ss (writeR ss ps i d).ps = true) ∧ ((writeR ss ps i d).k ≠ 0 → (writeR ss ps i d).ss = [] ∧ (writeR ss ps i d).ps = []) := by
  refine ⟨fun h => ?_, fun h => ?_⟩
  · have := write_ok h
    rw [this.2.2.2.2.2.1]
    exact this.2.2.2.2.2.2
  · unfold writeR at h ⊢
    repeat' split
    all_goals simp_all [ill]
theorem flush_out (ss : List ByteArray) (ps : List Pend) : ((flushR ss ps).k = 0 → rightB (flushR ss ps).ss (flushR ss ps).ps = true) ∧ ((flushR ss ps).k ≠ 0 → (flushR ss ps).ss = [] ∧ (flushR ss ps).ps = []) := by
  refine ⟨fun h => ?_, fun h => ?_⟩
  · exact flush_right h
  · unfold flushR at h ⊢
    repeat' split
    all_goals simp_all [ill]
theorem read_out (ss : List ByteArray) (ps : List Pend) (i : Int) : ((readR ss ps i).k = 0 → rightB (readR ss ps i).ss (readR ss ps i).ps = true) ∧ ((readR ss ps i).k ≠ 0 → (readR ss ps i).ss = [] ∧ (readR ss ps i).ps = []) := by
  refine ⟨fun h => ?_, fun h => ?_⟩
  · have := read_data h
    rw [this.2.1, this.2.2]
    exact this.1
  · unfold readR at h ⊢
    repeat' split
    all_goals simp_all [ill]
/-- A result's bounds. -/
def Fit (o : Out) : Prop := (∀ s ∈ o.ss, s.size ≤ maxLen) ∧ (∀ q ∈ o.ps, q.2.size ≤ maxLen) ∧ (o.k = 0 → rightB o.ss o.ps = true)
theorem fit_of {o : Out} (h : (o.k = 0 → rightB o.ss o.ps = true) ∧ (o.k ≠ 0 → o.ss = [] ∧ o.ps = [])) : Fit o := by
  by_cases hk : o.k = 0
  · exact ⟨(small_sizes (h.1 hk)).1, (small_sizes (h.1 hk)).2, h.1⟩
  · obtain ⟨e1, e2⟩ := h.2 hk
    exact ⟨by rw [e1]; simp, by rw [e2]; simp, h.1⟩
/-- A disk in a variable. -/
structure DB (W : World) (D : Nat) (ss : List ByteArray) (ps : List Pend) (a : Option Addr) (c : Nat) (a' : Option Addr) (c' : Nat) : Prop where
  loc : W.heap[D]? = some (.cells #[.slice a ss.length c, .slice a' ps.length c'] 26)
  hs : Strs W (.slice a ss.length c) ss
  hp : Pends W (.slice a' ps.length c') ps
/-- A result in a variable. -/
structure OB (W : World) (Y : Nat) (o : Out) (f : Option Addr) (d : Nat) (f' : Option Addr) (d' : Nat) : Prop where
  loc : W.heap[Y]? = some (.cells #[.slice f o.ss.length d, .slice f' o.ps.length d', .string o.d, .int .i64 o.k] 72)
  hs : Strs W (.slice f o.ss.length d) o.ss
  hp : Pends W (.slice f' o.ps.length d') o.ps
section
variable {W w' : World} {D Y c c' d d' : Nat} {ss : List ByteArray} {ps : List Pend} {a a' f f' : Option Addr} {o : Out}
theorem DB.below (h : DB W D ss ps a c a' c') (hb : Below W.heap.size W w') : DB w' D ss ps a c a' c' := ⟨carry h.loc hb, h.hs.below hb, h.hp.below hb⟩
theorem OB.below (h : OB W Y o f d f' d') (hb : Below W.heap.size W w') : OB w' Y o f d f' d' := ⟨carry h.loc hb, h.hs.below hb, h.hp.below hb⟩
theorem DB.lay {B : Nat} (h : ODisk B W (.slice a ss.length c) (.slice a' ps.length c') ss ps) : DB (W.alloc (.cells #[.slice a ss.length c, .slice a' ps.length c'] 26)) W.heap.size ss ps a c a' c' :=
  ⟨heap_alloc_new _ _, h.1.strs.alloc _, h.2.pends.alloc _⟩
theorem OB.lay {B : Nat} (h : ODisk B W (.slice f o.ss.length d) (.slice f' o.ps.length d') o.ss o.ps) : OB (W.alloc (.cells #[.slice f o.ss.length d, .slice f' o.ps.length d', .string o.d, .int .i64 o.k] 72)) W.heap.size o f d f' d' :=
  ⟨heap_alloc_new _ _, h.1.strs.alloc _, h.2.pends.alloc _⟩
end
/-- A result, and that only memory was made since W. -/
def Res (W : World) (o : Out) (e : Ending) (w' : World) : Prop :=
  ∃ (f : Option Addr) (d : Nat) (f' : Option Addr) (d' : Nat), e = .returned (.agg #[.slice f o.ss.length d, .slice f' o.ps.length d', .string o.d, .int .i64 o.k]) ∧ Strs w' (.slice f o.ss.length d) o.ss ∧ Pends w' (.slice f' o.ps.length d') o.ps ∧ Below W.heap.size W w'
def DRes (W : World) (ss : List ByteArray) (ps : List Pend) (e : Ending) (w' : World) : Prop :=
  ∃ (f : Option Addr) (d : Nat) (f' : Option Addr) (d' : Nat), e = .returned (.agg #[.slice f ss.length d, .slice f' ps.length d']) ∧ Strs w' (.slice f ss.length d) ss ∧ Pends w' (.slice f' ps.length d') ps ∧ Below W.heap.size W w'
theorem res_of {W x : World} {k : FuncId} {args : Array Value} {o o' : Out} (e : o = o') (hb : Below W.heap.size W x) (h : Calls Tryz.prog k args x fun e w' => OT x o e w') : Calls Tryz.prog k args x fun e w' => Res W o' e w' := by
  subst e
  exact h.mono (fun _ _ ⟨f, d, f', d', he, ho, hx⟩ => ⟨f, d, f', d', he, ho.1.strs, ho.2.pends, bel2 hb hx⟩)
theorem dres_of {W x : World} {k : FuncId} {args : Array Value} {c c' : List ByteArray × List Pend} (e : c = c') (hb : Below W.heap.size W x) (h : Calls Tryz.prog k args x fun e w' => DTold x c.1 c.2 e w') : Calls Tryz.prog k args x fun e w' => DRes W c'.1 c'.2 e w' := by
  subst e
  exact h.mono (fun _ _ ⟨f, d, f', d', he, ho, hx⟩ => ⟨f, d, f', d', he, ho.1.strs, ho.2.pends, bel2 hb hx⟩)
theorem is_of {W x : World} {k : FuncId} {args : Array Value} {b : Bool} (hb : Below W.heap.size W x) (h : Calls Tryz.prog k args x fun e w' => e = .returned (.bool b) ∧ Below x.heap.size x w') : Calls Tryz.prog k args x fun e w' => e = .returned (.bool b) ∧ Below W.heap.size W w' :=
  h.mono (fun _ _ ⟨he, hx⟩ => ⟨he, bel2 hb hx⟩)
/-- What a read answers, by its data alone. -/
def DatRes (W : World) (D : ByteArray) (e : Ending) (w' : World) : Prop :=
  ∃ (v1 v2 : Value) (c : Int), e = .returned (.agg #[v1, v2, .string D, .int .i64 c]) ∧ Below W.heap.size W w'
theorem dat_of {W x : World} {k : FuncId} {args : Array Value} {o : Out} {D : ByteArray} (e : o.d = D) (hb : Below W.heap.size W x) (h : Calls Tryz.prog k args x fun e w' => OT x o e w') : Calls Tryz.prog k args x fun e w' => DatRes W D e w' := by
  subst e
  exact h.mono (fun _ _ ⟨_, _, _, _, he, _, hx⟩ => ⟨_, _, _, he, bel2 hb hx⟩)
def wantAt (ss : List ByteArray) (ps : List Pend) (k : Nat) : ByteArray := Dk.readOf (ss.getD k ⟨#[]⟩) ps k
theorem rd {ss : List ByteArray} {ps : List Pend} {k : Nat} (hR : rightB ss ps = true) (hk : k < ss.length) : (readR ss ps k).d = wantAt ss ps k := by
  rw [Dk.read_ok hR (List.getElem?_eq_getElem hk)]
  simp [wantAt, List.getD_eq_getElem?_getD, List.getElem?_eq_getElem hk]
theorem want_more (ss : List ByteArray) (ps : List Pend) (i k : Nat) (t : ByteArray) : wantAt ss (ps ++ [((i : Int), t)]) k = if i = k then t else wantAt ss ps k := by
  unfold wantAt
  rw [Dk.readOf_snoc]
  by_cases h : i = k
  · rw [if_pos h, if_pos (by rw [h])]
  · rw [if_neg h, if_neg (by simp only; omega)]
theorem flushed_read {ss : List ByteArray} {ps : List Pend} {k : Nat} (hR : rightB ss ps = true) (hF : rightB (Dk.flushOf ss ps) [] = true) (hk : k < ss.length) : (readR (Dk.flushOf ss ps) [] k).d = wantAt ss ps k := by
  have hp := ((right_iff ss ps).1 hR).2.2.2.2
  have h := Dk.flushOf_get ps ss k ss[k] (List.getElem?_eq_getElem hk) (fun p h => ⟨(hp p h).1, (hp p h).2.1⟩)
  rw [Dk.read_ok hF h]
  simp [wantAt, Dk.readOf, List.getD_eq_getElem?_getD, List.getElem?_eq_getElem hk]
theorem crash_nil {ss s3 : List ByteArray} {ps p3 : List Pend} {kp : List Int} (hR : rightB ss ps = true) (h : crashR ss ps kp = (s3, p3)) : p3.length = 0 := by
  have e : (crashR ss ps kp).2 = [] := by
    unfold crashR
    rw [if_neg (show ¬ rightB ss ps = false by rw [hR]; simp)]
    split <;> rfl
  rw [h] at e
  simp only at e
  rw [e]
  rfl
def RelL (W : World) (n : Nat) (x : Value) (wr : World) : Prop := ∃ k : Nat, k ≤ n ∧ x = .int .i64 k ∧ Below W.heap.size W wr
theorem field_data (a b : Value) (d : ByteArray) (k : Int) (w : World) : (Instr.field 72 (.agg #[a, b, .string d, .int .i64 k]) 1).run Tryz.prog w = .ok (.string d) w := by kernel_rfl
end Go.Proofs.YtfiabbfdnmldjaaGreatDoor.E5
