/-
  The steps of a put as function values, and what is there behind them.
-/
import Derived.Test.YtfiabbfdnmldjaaGreatDoorPK
import Derived.Test.YtfiabbfdnmldjaaGreatDoorPF
import Derived.Test.YtfiabbfdnmldjaaGreatDoorPA
import Derived.Laws.EntriesVeiled
namespace Go.Proofs.YtfiabbfdnmldjaaGreatDoor.U3
open Go.RowKit
open Go.Proofs.YtfiabbfdnmldjaaGreatDoor.C0 Go.Proofs.YtfiabbfdnmldjaaGreatDoor.S0 Go.Proofs.YtfiabbfdnmldjaaGreatDoor.S1 Go.Proofs.YtfiabbfdnmldjaaGreatDoor.S2 Go.Proofs.YtfiabbfdnmldjaaGreatDoor.S3 Go.Proofs.YtfiabbfdnmldjaaGreatDoor.O1 Go.Proofs.YtfiabbfdnmldjaaGreatDoor.T0 Go.Proofs.YtfiabbfdnmldjaaGreatDoor.T1 Go.Proofs.YtfiabbfdnmldjaaGreatDoor.T2 Go.Proofs.YtfiabbfdnmldjaaGreatDoor.T3 Go.Proofs.YtfiabbfdnmldjaaGreatDoor.T4 Go.Proofs.YtfiabbfdnmldjaaGreatDoor.T5 Go.Proofs.YtfiabbfdnmldjaaGreatDoor.U1
open Go.Proofs.YtfiabbfdnmldjaaGreatDoor.Dk (Out ill writeR flushR rightB right_iff St doSt runS doSt_right runS_drop runS_stop runS_end)

/-- A function value that does a step. -/
def StepIs (w : World) (v : Value) : St → Prop
  | none => v = .func (.func 81) #[] #[]
  | some (i, d) => ∃ b c, v = .func (.func 104) #[] #[.pointer (some ⟨b, 0, none⟩), .pointer (some ⟨c, 0, none⟩)] ∧ w.heap[b]? = some (.cells #[.int .i64 i] 2) ∧ w.heap[c]? = some (.cells #[.string d] 9)
theorem StepIs.below {w w' : World} {v : Value} {s : St} (h : StepIs w v s) (hb : Below w.heap.size w w') : StepIs w' v s := by
  match s, h with
  | none, h => exact h
  | some (i, d), h =>
    obtain ⟨b, c, e, h1, h2⟩ := h
    exact ⟨b, c, e, carry h1 hb, carry h2 hb⟩
/-- Steps that came in as a slice. -/
def Steps (w : World) (v : Value) (l : List St) : Prop :=
  ∃ (a : Option Addr) (cap : Nat), v = .slice a l.length cap ∧ l.length ≤ 1000 ∧
    (0 < l.length → ∃ b off, a = some ⟨b, off, none⟩ ∧ b < w.heap.size ∧ ∀ i s, l[i]? = some s → ∃ f, w.cell? ⟨b, off + i, none⟩ = some f ∧ StepIs w f s)
theorem Steps.below {w w' : World} {v : Value} {l : List St} (h : Steps w v l) (hb : Below w.heap.size w w') : Steps w' v l := by
  obtain ⟨a, cap, rfl, hl, hc⟩ := h
  refine ⟨a, cap, rfl, hl, fun h0 => ?_⟩
  obtain ⟨b, off, rfl, hbb, hcc⟩ := hc h0
  refine ⟨b, off, rfl, by have := hb.size; omega, fun i s hs => ?_⟩
  obtain ⟨f, h1, h2⟩ := hcc i s hs
  exact ⟨f, by rw [hb.cell (p := ⟨b, off + i, none⟩) hbb]; exact h1, h2.below hb⟩
def okSt : St → Prop
  | some (_, d) => d.size ≤ maxLen
  | none => True
set_option maxRecDepth 100000 in
set_option maxHeartbeats 800000 in
theorem writing_one (vs vp : Value) (ss : List ByteArray) (ps : List Pend) (i : Int) (d : ByteArray) (b c : Nat) (w : World) (hs : Strs w vs ss) (hp : Pends w vp ps) (hz : ∀ s ∈ ss, s.size ≤ maxLen) (hzp : ∀ p ∈ ps, p.2.size ≤ maxLen) (hd : d.size ≤ maxLen) (hb : w.heap[b]? = some (.cells #[.int .i64 i] 2)) (hc : w.heap[c]? = some (.cells #[.string d] 9)) :
    Calls Tryz.prog 104 #[.agg #[vs, vp], .pointer (some ⟨b, 0, none⟩), .pointer (some ⟨c, 0, none⟩)] w fun e w' => OT w (writeR ss ps i d) e w' := by
  obtain ⟨k0, k1, b0, z0⟩ := T5.k_box w (.cells #[vs, vp] 26) (.cells #[.slice none 0 0, .slice none 0 0, .string ⟨#[]⟩, .int .i64 0] 72)
  have cb := cell_of_one (carry hb b0)
  have cc := cell_of_one (carry hc b0)
  have hcall : ∀ W, Strs W vs ss → Pends W vp ps → Calls Tryz.prog 105 #[.agg #[vs, vp], .int .i64 i, .string d] W fun e w' => OT W (writeR ss ps i d) e w' := fun W h1 h2 => TA.write_impl vs vp ss ps i d W h1 h2 hz hzp hd
  generalize writeR ss ps i d = o at hcall ⊢
  go_enter Tryz.func104, Tryz.ntmps104
  go_wp2_with fail
  refine (hcall _ (hs.below b0) (hp.below b0)).mono ?_
  rintro e w1 ⟨f, m, f', m', rfl, ho, hb1⟩
  rw [z0] at ho
  obtain ⟨r0, r1, r2, r3, rf, -⟩ := blk4 (carry k1 hb1)
  have HF : Hid (∀ p q r s, OT w o (.returned (.agg #[.slice f o.ss.length m, .slice f' o.ps.length m', .string o.d, .int .i64 o.k])) (set4 w1 (w.heap.size + 1) p q r s)) := fin_out (bel2 b0 hb1) ho (Nat.le_refl _)
  clear k0 k1 cb cc b0 hb1 ho
  go_wp2
  exact bodyPost_ret (v := .agg #[.slice f o.ss.length m, .slice f' o.ps.length m', .string o.d, .int .i64 o.k]) (by simp [results, Tryz.results104, go_sem, r0, r1, r2, r3]) rfl (HF.out _ _ _ _)
set_option maxRecDepth 100000 in
theorem writing_any (i : Int) (d : ByteArray) (w : World) : Calls Tryz.prog 79 #[.int .i64 i, .string d] w fun e w' => (∃ v, e = .returned v ∧ StepIs w' v (.write i d) ∧ v.oneCell' = true) ∧ Below w.heap.size w w' := by
  have hmf : ∀ (fn : Fn) (first cap : Array Value) (w : World), (Instr.makeFunc fn first cap).run Tryz.prog w = .ok (.func fn first cap) w := fun _ _ _ _ => rfl
  obtain ⟨k0, k1, b0, z0⟩ := T5.k_box w (.cells #[.int .i64 i] 2) (.cells #[.string d] 9)
  go_enter Tryz.func79, Tryz.ntmps79
  go_wp2
  go_ret
  exact ⟨⟨_, rfl, ⟨_, _, rfl, k0, k1⟩, rfl⟩, b0⟩
/-- What is told of a disk, and why not. -/
abbrev FTold (a1 a3 a5 a9 : Addr) (w : World) (o : Out) (e : Ending) (w' : World) : Prop :=
  ∃ a c a' c' err, e = .returned (.tuple #[.agg #[.slice a o.ss.length c, .slice a' o.ps.length c'], err]) ∧ ODisk w.heap.size w' (.slice a o.ss.length c) (.slice a' o.ps.length c') o.ss o.ps ∧ IsErr a1 a3 a5 a9 err o.k ∧ Below w.heap.size w w'
def RelS (w : World) (ss : List ByteArray) (ps : List Pend) (l : List St) (x : Value) (wr : World) : Prop :=
  ∃ (k : Nat) (ss' : List ByteArray) (ps' : List Pend) (a : Option Addr) (c : Nat) (a' : Option Addr) (c' : Nat), k ≤ l.length ∧ x = .int .i64 k ∧ wr.heap[w.heap.size]? = some (.cells #[.slice a ss'.length c, .slice a' ps'.length c'] 26) ∧ wr.heap[w.heap.size + 1]? = some (.cells #[.slice none 0 0, .slice none 0 0] 26) ∧
    Strs wr (.slice a ss'.length c) ss' ∧ Pends wr (.slice a' ps'.length c') ps' ∧ rightB ss' ps' = true ∧ runS ss ps l = runS ss' ps' (l.drop k) ∧ Below w.heap.size w wr
theorem set2_wrote (w : World) (g : Nat) (a b : Value) : Wrote (fun k => k = g) w ((w.setCell ⟨g, 0, none⟩ a).setCell ⟨g, 1, none⟩ b) :=
  ((Wrote.refl (fun k => k = g) w).setCell (p := ⟨g, 0, none⟩) (.inr rfl) a).setCell (p := ⟨g, 1, none⟩) (.inr rfl) b
theorem set2_at {w : World} {g : Nat} {x y : Value} {T : TypeId} (h : w.heap[g]? = some (.cells #[x, y] T (0, 0))) (a b : Value) : ((w.setCell ⟨g, 0, none⟩ a).setCell ⟨g, 1, none⟩ b).heap[g]? = some (.cells #[a, b] T (0, 0)) := by
  have h1 := heap_setCell_same w g 0 _ _ a h
  have h2 := heap_setCell_same _ g 1 _ _ b h1
  simpa using h2
theorem set2_read {w : World} {g : Nat} {x y : Value} {T : TypeId} (h : w.heap[g]? = some (.cells #[x, y] T (0, 0))) (a b : Value) (X : Obj) : (((w.setCell ⟨g, 0, none⟩ a).setCell ⟨g, 1, none⟩ b).alloc X).cell? ⟨g, 0, none⟩ = some a ∧ (((w.setCell ⟨g, 0, none⟩ a).setCell ⟨g, 1, none⟩ b).alloc X).cell? ⟨g, 1, none⟩ = some b :=
  ⟨(blk2 (carryA (set2_at h a b) X)).1, (blk2 (carryA (set2_at h a b) X)).2.1⟩
theorem RelS.step {w wr w1 : World} {ss : List ByteArray} {ps : List Pend} {l : List St} {k : Nat} {o : Out} {f f' : Option Addr} {m m' : Nat} {x y : Value} {X : Obj} (hk : k < l.length) (k0 : wr.heap[w.heap.size]? = some (.cells #[x, y] 26)) (k1 : wr.heap[w.heap.size + 1]? = some (.cells #[.slice none 0 0, .slice none 0 0] 26))
    (B : Below w.heap.size w wr) (ho : ODisk wr.heap.size w1 (.slice f o.ss.length m) (.slice f' o.ps.length m') o.ss o.ps) (hb1 : Below wr.heap.size wr w1) (hR : rightB o.ss o.ps = true) (hrun : runS ss ps l = runS o.ss o.ps (l.drop (k + 1))) :
    RelS w ss ps l (.int .i64 ((k : Int) + 1)) (((w1.setCell ⟨w.heap.size, 0, none⟩ (.slice f o.ss.length m)).setCell ⟨w.heap.size, 1, none⟩ (.slice f' o.ps.length m')).alloc X) := by
  have e0 := carry k0 hb1
  have e1 := carry k1 hb1
  have hlt := lt_some k0
  have hT := (set2_wrote w1 w.heap.size (.slice f o.ss.length m) (.slice f' o.ps.length m')).alloc X
  have hne : ∀ g, ((Value.slice f o.ss.length m).ownBlock = some g ∨ (Value.slice f' o.ps.length m').ownBlock = some g) → ¬ g = w.heap.size := fun g h e => by have := (ho.rows g h).1; omega
  refine ⟨k + 1, o.ss, o.ps, f, m, f', m', by omega, by rfl, carryA (set2_at e0 _ _) X, carryW e1 hT (by omega), (ho.1.strs.touch hT (fun g h => hne g (.inl h))), (ho.2.pends.touch hT (fun g h => hne g (.inr h))), hR, hrun, ?_⟩
  exact belW (bel2 B hb1) hT (fun g h => by omega)
theorem fin_steps {a1 a3 a5 a9 : Addr} {w wr w2 : World} {o : Out} {ss' : List ByteArray} {ps' : List Pend} {f f' : Option Addr} {m m' : Nat} (ho : o = ⟨ss', ps', ⟨#[]⟩, 0⟩) (B : Below w.heap.size w wr) (hz : w.heap.size + 1 < wr.heap.size) (hD : ODisk wr.heap.size w2 (.slice f ss'.length m) (.slice f' ps'.length m') ss' ps') (hb : Below wr.heap.size wr w2) (u u' : Value) :
    FTold a1 a3 a5 a9 w o (.returned (.tuple #[.agg #[.slice f ss'.length m, .slice f' ps'.length m'], .nilIface])) ((w2.setCell ⟨w.heap.size + 1, 0, none⟩ u).setCell ⟨w.heap.size + 1, 1, none⟩ u') := by
  subst ho
  have hT := set2_wrote w2 (w.heap.size + 1) u u'
  refine ⟨f, m, f', m', _, rfl, (hD.wrote hT (fun g h h' => by have := (hD.rows g h').1; omega)).mono (by omega), .none, belW (bel2 B hb) hT (fun g h => by omega)⟩
theorem fin_fault {a1 a3 a5 a9 : Addr} {w w2 : World} {o : Out} {k : Int} (hk : ¬ k = 0) (ho : o = ill k) (B : Below w.heap.size w w2) (X : Obj) (u u' : Value) :
    FTold a1 a3 a5 a9 w o (.returned (.tuple #[.agg #[.slice none 0 0, .slice none 0 0], CF.fault k])) (((w2.setCell ⟨w.heap.size + 1, 0, none⟩ u).setCell ⟨w.heap.size + 1, 1, none⟩ u').alloc X).drew := by
  subst ho
  exact ⟨none, 0, none, 0, _, rfl, ⟨World.ownsRow_nil _ _ _ _, World.ownsRow_nil _ _ _ _⟩, .fault k hk, (belW B ((set2_wrote w2 (w.heap.size + 1) u u').alloc X) (fun g h => by omega)).drew⟩
/-- A step by its function value. -/
theorem step_any {W : World} {f : Value} {s : St} (h : StepIs W f s) (hk : okSt s) (vs vp : Value) (ss : List ByteArray) (ps : List Pend) (hs : Strs W vs ss) (hp : Pends W vp ps) (hz : ∀ s ∈ ss, s.size ≤ maxLen) (hzp : ∀ p ∈ ps, p.2.size ≤ maxLen) :
    (f = .func (.func 81) #[] #[] ∧ Calls Tryz.prog 81 #[.agg #[vs, vp]] W fun e w' => OT W (doSt ss ps s) e w') ∨
    ∃ b c, f = .func (.func 104) #[] #[.pointer (some ⟨b, 0, none⟩), .pointer (some ⟨c, 0, none⟩)] ∧ Calls Tryz.prog 104 #[.agg #[vs, vp], .pointer (some ⟨b, 0, none⟩), .pointer (some ⟨c, 0, none⟩)] W fun e w' => OT W (doSt ss ps s) e w' := by
  match s, h, hk with
  | none, h, _ => exact .inl ⟨h, TB.flush_impl vs vp ss ps W hs hp hz hzp⟩
  | some (i, d), h, hk =>
    obtain ⟨b, c, e, h1, h2⟩ := h
    exact .inr ⟨b, c, e, writing_one vs vp ss ps i d b c W hs hp hz hzp hk h1 h2⟩
set_option maxRecDepth 100000 in
set_option maxHeartbeats 1600000 in
theorem after_any (a1 a3 a5 a9 : Addr) (vs vp v : Value) (ss : List ByteArray) (ps : List Pend) (l : List St) (w : World) (hs : Strs w vs ss) (hp : Pends w vp ps) (hR : rightB ss ps = true) (hl : Steps w v l) (hok : ∀ s ∈ l, okSt s) :
    Calls Tryz.prog 78 #[.agg #[vs, vp], v] w fun e w' => FTold a1 a3 a5 a9 w (runS ss ps l) e w' := by
  obtain ⟨sa, sc, rfl⟩ : ∃ a c, vs = .slice a ss.length c := hs.len
  obtain ⟨pa, pc, rfl⟩ : ∃ a c, vp = .slice a ps.length c := by obtain ⟨a, c, e, _⟩ := hp; exact ⟨a, c, e⟩
  obtain ⟨k0, k1, b0, z0⟩ := T5.k_box w (.cells #[.slice sa ss.length sc, .slice pa ps.length pc] 26) (.cells #[.slice none 0 0, .slice none 0 0] 26)
  have H0 : Hid (RelS w ss ps l (.int .i64 0) _) := ⟨0, ss, ps, sa, sc, pa, pc, Nat.zero_le _, rfl, k0, k1, hs.below b0, hp.below b0, hR, rfl, b0⟩
  obtain ⟨la, lc, rfl, hlen, hcc⟩ := hl
  clear k0 k1 b0
  go_enter Tryz.func78, Tryz.ntmps78
  go_wp2_with fail
  go_loopw [11] (fun x wr => RelS w ss ps l x wr) (fun x _ => l.length - (intOf x).toNat)
  case atStart => exact H0.out
  case round =>
    clear H0
    obtain ⟨k, ss', ps', a, c, a', c', hk, rfl, k0, k1, hs', hp', hR', hrun, B⟩ := hrel
    obtain ⟨n1, n2, n3, n4, n5⟩ := (right_iff ss' ps').1 hR'
    have hz : ∀ s ∈ ss', s.size ≤ maxLen := fun s h => by have := n4 s h; unfold maxLen; omega
    have hzp : ∀ p ∈ ps', p.2.size ≤ maxLen := fun p h => by have := (n5 p h).2.2; unfold maxLen; omega
    have hzz := lt_some k1
    obtain ⟨q0, q1, -, -⟩ := blk2 k0
    by_cases hlt : k < l.length
    · have hlt' : (k : Int) < (l.length : Int) := by omega
      obtain ⟨b, off, rfl, hbb, hcl⟩ := hcc (by omega)
      obtain ⟨s, hs0⟩ : ∃ s, l[k]? = some s := ⟨_, List.getElem?_eq_getElem hlt⟩
      obtain ⟨f, hf, hst⟩ := hcl k s hs0
      rw [← B.cell (p := ⟨b, off + k, none⟩) hbb] at hf
      have hsa := step_any (hst.below B) (hok s (List.mem_of_getElem? hs0)) _ _ ss' ps' hs' hp' hz hzp
      have hyes : Hid ((doSt ss' ps' s).k = 0 → rightB (doSt ss' ps' s).ss (doSt ss' ps' s).ps = true ∧ runS ss ps l = runS (doSt ss' ps' s).ss (doSt ss' ps' s).ps (l.drop (k + 1))) := fun h => ⟨doSt_right h, hrun.trans (runS_drop hs0 h)⟩
      have hno : Hid (¬ (doSt ss' ps' s).k = 0 → runS ss ps l = ill (doSt ss' ps' s).k) := fun h => hrun.trans (runS_stop hs0 h)
      clear hcl hst hs0 hrun hz hzp n4 n5 hs' hp' hR'
      generalize doSt ss' ps' s = o at hsa hyes hno
      by_cases hk0 : o.k = 0
      · have hk0' : (o.k == 0) = true := by simpa using hk0
        obtain ⟨hR2, hrun2⟩ := hyes.out hk0
        have HR2 : Hid (rightB o.ss o.ps = true) := hR2
        have HRN : Hid (runS ss ps l = runS o.ss o.ps (l.drop (k + 1))) := hrun2
        clear hk0 hyes hno hR2 hrun2
        rcases hsa with ⟨rfl, hcall⟩ | ⟨x, y, rfl, hcall⟩
        all_goals
          go_wp2_with fail
          refine hcall.mono ?_
          rintro e w1 ⟨fa, m, fa', m', rfl, ho, hb1⟩
          have HX : ∀ X, Hid (RelS w ss ps l (.int .i64 ((k : Int) + 1)) (((w1.setCell ⟨w.heap.size, 0, none⟩ (.slice fa o.ss.length m)).setCell ⟨w.heap.size, 1, none⟩ (.slice fa' o.ps.length m')).alloc X)) := fun X => RelS.step hlt k0 k1 B ho hb1 HR2.out HRN.out
          obtain ⟨x0, x1, xf, x9⟩ := blk2 (carry k0 hb1)
          go_wp2
          go_roundw
          case rel => exact (HX _).out
          case measure => simp [intOf]; omega
      · have hk0' : (o.k == 0) = false := by simpa using hk0
        have HN : Hid (runS ss ps l = ill o.k) := hno.out hk0
        have HK0 : Hid (¬ o.k = 0) := hk0
        clear hk0 hyes hno
        rcases hsa with ⟨rfl, hcall⟩ | ⟨x, y, rfl, hcall⟩
        all_goals
          go_wp2_with fail
          refine hcall.mono ?_
          rintro e w1 ⟨fa, m, fa', m', rfl, ho, hb1⟩
          have HF : ∀ X, Hid (∀ u u', FTold a1 a3 a5 a9 w (runS ss ps l) (.returned (.tuple #[.agg #[.slice none 0 0, .slice none 0 0], CF.fault o.k])) (((w1.setCell ⟨w.heap.size + 1, 0, none⟩ u).setCell ⟨w.heap.size + 1, 1, none⟩ u').alloc X).drew) := fun X => fin_fault HK0.out HN.out (bel2 B hb1) X
          obtain ⟨x0, x1, xf, x9⟩ := blk2 (carry k1 hb1)
          have HY : ∀ X, Hid (_ ∧ _) := fun X => set2_read (carry k1 hb1) (.slice none 0 0) (.slice none 0 0) X
          go_wp2
          go_region
          all_goals
            go_wp2
            exact bodyPost_ret (v := .tuple #[.agg #[.slice none 0 0, .slice none 0 0], CF.fault o.k]) (by simp [results, Tryz.results78, go_sem, (HY _).out.1, (HY _).out.2, CF.fault]) rfl ((HF _).out _ _)
    · have HN : Hid (runS ss ps l = ⟨ss', ps', ⟨#[]⟩, 0⟩) := by have := runS_end (ss := ss') (ps := ps') (l := l) (k := k) (by omega); exact hrun.trans this
      clear hrun
      go_wp2_with fail
      refine (copied_any _ _ ss' ps' _ hs' hp' (by omega) (by omega)).mono ?_
      rintro e w2 ⟨f, m, f', m', rfl, ho, hb⟩
      have HF : Hid (∀ u u', FTold a1 a3 a5 a9 w (runS ss ps l) (.returned (.tuple #[.agg #[.slice f ss'.length m, .slice f' ps'.length m'], .nilIface])) ((w2.setCell ⟨w.heap.size + 1, 0, none⟩ u).setCell ⟨w.heap.size + 1, 1, none⟩ u')) := fin_steps HN.out B hzz ho hb
      obtain ⟨x0, x1, xf, x9⟩ := blk2 (carry k1 hb)
      go_wp2
      exact bodyPost_ret (v := .tuple #[.agg #[.slice f ss'.length m, .slice f' ps'.length m'], .nilIface]) (by simp [results, Tryz.results78, go_sem, x0, x1]) rfl (HF.out _ _)
end Go.Proofs.YtfiabbfdnmldjaaGreatDoor.U3
