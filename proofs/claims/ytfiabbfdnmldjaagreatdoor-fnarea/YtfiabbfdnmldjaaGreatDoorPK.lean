/-
  U1 U7: parts of the proof, one behind the other.
-/
import Derived.Test.YtfiabbfdnmldjaaGreatDoorPI
import Derived.LaidEql
import Derived.Stop.Asserts
import Derived.RowKitTokens
import Derived.Stop.LaidTwo
import Derived.LaidLaws
import Derived.OpenVars
import Derived.ProofKit
/-
  What errors.Is answers at the program's own errors: nothing, a sentinel, another one, a fault with a code.
-/
namespace Go.Proofs.YtfiabbfdnmldjaaGreatDoor.U1
open Go.RowKit Go.Extern.Stop Go.Stop Go.Extern
open Go.Proofs.YtfiabbfdnmldjaaGreatDoor.C0 Go.Proofs.YtfiabbfdnmldjaaGreatDoor.CF

theorem isTypeOf (v : Value) (w : World) : (Extern.ReflectliteType.typeOf #[.iface 172 v]).run Tryz.prog w = .ok (.iface 145 (.agg #[.pointer (some ⟨5, 172, none⟩)])) w := by kernel_rfl
def cmpM : TypeId → Sem Value := fun t => do Extern.Rtype.noPackHeld "Comparable" t; pure (.bool (← typeInfo t).comparable)
theorem isComparable (w : World) : (Extern.ReflectliteType.method cmpM #[.agg #[.pointer (some ⟨5, 172, none⟩)]]).run Tryz.prog w = .ok (.bool true) w := by kernel_rfl
theorem isMethodComparable (v : Value) (w : World) : (Go.method 305 145 v "Comparable").run Tryz.prog w = .ok (142, v) w := by kernel_rfl
theorem isComp : (Tryz.prog.info? 172).map (·.comparable) = some true := by kernel_rfl
theorem isSize : (Tryz.prog.info? 193).map (·.size) = some 1 := by kernel_rfl
theorem noIsE (v : Value) (xT : TypeId) (w : World) : (Instr.typeAssert (.iface 172 v) xT 147 true).run Tryz.prog w = .ok (.tuple #[.nilIface, .bool false]) w := run_typeAssert_lacksB Tryz.underlying147 (by kernel_rfl) (by kernel_rfl) v xT w
theorem noUnwrapE (v : Value) (xT : TypeId) (w : World) : (Instr.typeAssert (.iface 172 v) xT 150 true).run Tryz.prog w = .ok (.tuple #[.nilIface, .bool false]) w := run_typeAssert_lacksB Tryz.underlying150 (by kernel_rfl) (by kernel_rfl) v xT w
theorem noUnwrapsE (v : Value) (xT : TypeId) (w : World) : (Instr.typeAssert (.iface 172 v) xT 152 true).run Tryz.prog w = .ok (.tuple #[.nilIface, .bool false]) w := run_typeAssert_lacksB Tryz.underlying152 (by kernel_rfl) (by kernel_rfl) v xT w
theorem noIsF (v : Value) (xT : TypeId) (w : World) : (Instr.typeAssert (.iface 104 v) xT 147 true).run Tryz.prog w = .ok (.tuple #[.nilIface, .bool false]) w := run_typeAssert_lacksB Tryz.underlying147 (by kernel_rfl) (by kernel_rfl) v xT w
theorem noUnwrapF (v : Value) (xT : TypeId) (w : World) : (Instr.typeAssert (.iface 104 v) xT 150 true).run Tryz.prog w = .ok (.tuple #[.nilIface, .bool false]) w := run_typeAssert_lacksB Tryz.underlying150 (by kernel_rfl) (by kernel_rfl) v xT w
theorem noUnwrapsF (v : Value) (xT : TypeId) (w : World) : (Instr.typeAssert (.iface 104 v) xT 152 true).run Tryz.prog w = .ok (.tuple #[.nilIface, .bool false]) w := run_typeAssert_lacksB Tryz.underlying152 (by kernel_rfl) (by kernel_rfl) v xT w

/-- A sentinel that lies at a. -/
abbrev sent (a : Addr) : Value := .iface 172 (.pointer (some a))
set_option maxRecDepth 100000 in
theorem is_same (a : Addr) (w : World) : Calls Tryz.prog 73 #[sent a, sent a] w fun e w' => e = .returned (.bool true) ∧ w' = w := by
  obtain ⟨i, hi, hcmp⟩ := Option.map_eq_some_iff.1 isComp
  obtain ⟨j, hj, hjs⟩ := Option.map_eq_some_iff.1 isSize
  have h8 := @run_callFunc_extern Tryz.prog 101 _ Extern.ReflectliteType.typeOf Tryz.func101 (by kernel_rfl) (by kernel_rfl) (by kernel_rfl) (by kernel_rfl)
  have h32 := @run_callFunc_extern Tryz.prog 142 _ (Extern.ReflectliteType.method cmpM) Tryz.func142 (by kernel_rfl) (by kernel_rfl) (by kernel_rfl) (by kernel_rfl)
  have tT := isTypeOf
  have cT := isComparable
  have mR := isMethodComparable
  have heq := run_eql_iface_ptr_same (P := Tryz.prog) w a Tryz.underlying59 Tryz.underlying172 hi hcmp hj
  go_enter Tryz.func73, Tryz.ntmps73
  go_wp2
  refine wp_loop_rounds 1 ?_
  rw [rounds_succ]
  go_wp2
  go_ret
  exact ⟨rfl, rfl⟩
theorem is_nil (b : Addr) (w : World) : Calls Tryz.prog 73 #[.nilIface, sent b] w fun e w' => e = .returned (.bool false) ∧ w' = w := by
  have hn := run_eql_iface_nil_left (P := Tryz.prog) w 172 (.pointer (some b)) Tryz.underlying59
  go_enter Tryz.func73, Tryz.ntmps73
  go_wp2
  go_ret
  exact ⟨rfl, rfl⟩
set_option maxRecDepth 100000 in
theorem is_other (a b : Addr) (ca cb : Array Value) (ta tb : TypeId) (w : World) (hne : a ≠ b) (ha : w.heap[a.block]? = some (.cells ca ta (0, 0))) (hb : w.heap[b.block]? = some (.cells cb tb (0, 0))) :
    Calls Tryz.prog 73 #[sent a, sent b] w fun e w' => e = .returned (.bool false) ∧ w' = w := by
  obtain ⟨i, hi, hcmp⟩ := Option.map_eq_some_iff.1 isComp
  obtain ⟨j, hj, hjs⟩ := Option.map_eq_some_iff.1 isSize
  have h8 := @run_callFunc_extern Tryz.prog 101 _ Extern.ReflectliteType.typeOf Tryz.func101 (by kernel_rfl) (by kernel_rfl) (by kernel_rfl) (by kernel_rfl)
  have h32 := @run_callFunc_extern Tryz.prog 142 _ (Extern.ReflectliteType.method cmpM) Tryz.func142 (by kernel_rfl) (by kernel_rfl) (by kernel_rfl) (by kernel_rfl)
  have tT := isTypeOf
  have cT := isComparable
  have mR := isMethodComparable
  have nE := noIsE
  have uE := noUnwrapE
  have vE := noUnwrapsE
  have heq := run_eql_iface_ptr_other (P := Tryz.prog) w Tryz.underlying59 Tryz.underlying172 hi hcmp hj (by rw [hjs]; decide) hne ha hb
  go_enter Tryz.func73, Tryz.ntmps73
  go_wp2
  refine wp_loop_rounds 1 ?_
  rw [rounds_succ]
  go_wp2
  go_ret
  exact ⟨rfl, rfl⟩
set_option maxRecDepth 100000 in
theorem is_fault (c : Int) (b : Addr) (w : World) : Calls Tryz.prog 73 #[fault c, sent b] w fun e w' => e = .returned (.bool false) ∧ w' = w := by
  unfold fault
  have h8 := @run_callFunc_extern Tryz.prog 101 _ Extern.ReflectliteType.typeOf Tryz.func101 (by kernel_rfl) (by kernel_rfl) (by kernel_rfl) (by kernel_rfl)
  have h32 := @run_callFunc_extern Tryz.prog 142 _ (Extern.ReflectliteType.method cmpM) Tryz.func142 (by kernel_rfl) (by kernel_rfl) (by kernel_rfl) (by kernel_rfl)
  have tT := isTypeOf
  have cT := isComparable
  have mR := isMethodComparable
  have nE := noIsF
  have uE := noUnwrapF
  have vE := noUnwrapsF
  have hty := run_eql_iface_types (P := Tryz.prog) 104 172 (.agg #[.int .i64 c]) (.pointer (some b)) Tryz.underlying59 (by decide) w
  go_enter Tryz.func73, Tryz.ntmps73
  go_wp2
  refine wp_loop_rounds 1 ?_
  rw [rounds_succ]
  go_wp2
  go_ret
  exact ⟨rfl, rfl⟩

/-- The four sentinels lie in their variables, at four places; the variable that errors.As reads lies as the program's text lays it. -/
structure Sents (w : World) (a1 a3 a5 a9 : Addr) : Prop where
  c1 : w.cell? ⟨0, 0, none⟩ = some (sent a1)
  c3 : w.cell? ⟨1, 0, none⟩ = some (sent a3)
  c5 : w.cell? ⟨2, 0, none⟩ = some (sent a5)
  c9 : w.cell? ⟨3, 0, none⟩ = some (sent a9)
  n13 : a1 ≠ a3
  n15 : a1 ≠ a5
  n19 : a1 ≠ a9
  n35 : a3 ≠ a5
  n39 : a3 ≠ a9
  n59 : a5 ≠ a9
  h1 : ∃ c t, w.heap[a1.block]? = some (.cells c t (0, 0))
  h3 : ∃ c t, w.heap[a3.block]? = some (.cells c t (0, 0))
  h5 : ∃ c t, w.heap[a5.block]? = some (.cells c t (0, 0))
  h9 : ∃ c t, w.heap[a9.block]? = some (.cells c t (0, 0))
  laid : Laid w
theorem lt_cell {w : World} {b o : Nat} {v : Value} (h : w.cell? ⟨b, o, none⟩ = some v) : b < w.heap.size := by
  rcases Nat.lt_or_ge b w.heap.size with h' | h'
  · exact h'
  · simp [World.cell?, Array.getElem?_eq_none h'] at h
theorem Sents.below {w w' : World} {a1 a3 a5 a9 : Addr} (h : Sents w a1 a3 a5 a9) (hb : Below w.heap.size w w') : Sents w' a1 a3 a5 a9 where
  c1 := (hb.cell (p := ⟨0, 0, none⟩) (lt_cell h.c1)).trans h.c1
  c3 := (hb.cell (p := ⟨1, 0, none⟩) (lt_cell h.c3)).trans h.c3
  c5 := (hb.cell (p := ⟨2, 0, none⟩) (lt_cell h.c5)).trans h.c5
  c9 := (hb.cell (p := ⟨3, 0, none⟩) (lt_cell h.c9)).trans h.c9
  n13 := h.n13
  n15 := h.n15
  n19 := h.n19
  n35 := h.n35
  n39 := h.n39
  n59 := h.n59
  h1 := by obtain ⟨c, t, e⟩ := h.h1; exact ⟨c, t, (hb.block _ (Array.getElem?_eq_some_iff.1 e).1).trans e⟩
  h3 := by obtain ⟨c, t, e⟩ := h.h3; exact ⟨c, t, (hb.block _ (Array.getElem?_eq_some_iff.1 e).1).trans e⟩
  h5 := by obtain ⟨c, t, e⟩ := h.h5; exact ⟨c, t, (hb.block _ (Array.getElem?_eq_some_iff.1 e).1).trans e⟩
  h9 := by obtain ⟨c, t, e⟩ := h.h9; exact ⟨c, t, (hb.block _ (Array.getElem?_eq_some_iff.1 e).1).trans e⟩
  laid := h.laid.below hb
theorem Sents.alloc {w : World} {a1 a3 a5 a9 : Addr} (h : Sents w a1 a3 a5 a9) (o : Obj) : Sents (w.alloc o) a1 a3 a5 a9 := h.below ((Below.refl _ _).alloc (Nat.le_refl _) o)
/-- An error of this layer and its code. -/
def IsErr (a1 a3 a5 a9 : Addr) (v : Value) (k : Int) : Prop :=
  (v = .nilIface ∧ k = 0) ∨ (v = sent a1 ∧ k = 1) ∨ (v = sent a3 ∧ k = 3) ∨ (v = sent a5 ∧ k = 5) ∨ (v = sent a9 ∧ k = 9) ∨ (¬ k = 0 ∧ v = CF.fault k)
theorem IsErr.none {a1 a3 a5 a9 : Addr} : IsErr a1 a3 a5 a9 .nilIface 0 := .inl ⟨rfl, rfl⟩
theorem IsErr.form {a1 a3 a5 a9 : Addr} : IsErr a1 a3 a5 a9 (sent a1) 1 := .inr (.inl ⟨rfl, rfl⟩)
theorem IsErr.head {a1 a3 a5 a9 : Addr} : IsErr a1 a3 a5 a9 (sent a3) 3 := .inr (.inr (.inl ⟨rfl, rfl⟩))
theorem IsErr.lack {a1 a3 a5 a9 : Addr} : IsErr a1 a3 a5 a9 (sent a5) 5 := .inr (.inr (.inr (.inl ⟨rfl, rfl⟩)))
theorem IsErr.room {a1 a3 a5 a9 : Addr} : IsErr a1 a3 a5 a9 (sent a9) 9 := .inr (.inr (.inr (.inr (.inl ⟨rfl, rfl⟩))))
theorem IsErr.fault {a1 a3 a5 a9 : Addr} (c : Int) (h : ¬ c = 0) : IsErr a1 a3 a5 a9 (CF.fault c) c := .inr (.inr (.inr (.inr (.inr ⟨h, rfl⟩))))
set_option maxRecDepth 100000 in
set_option maxHeartbeats 1600000 in
theorem code_any (a1 a3 a5 a9 : Addr) (v : Value) (k : Int) (w : World) (hS : Sents w a1 a3 a5 a9) (h : IsErr a1 a3 a5 a9 v k) :
    Calls Tryz.prog 35 #[v] w fun e w' => e = .returned (.int .i64 k) ∧ Below w.heap.size w w' := by
  have c1 := hS.c1
  have c3 := hS.c3
  have c5 := hS.c5
  have c9 := hS.c9
  obtain ⟨x1, t1, h1⟩ := hS.h1
  obtain ⟨x3, t3, h3⟩ := hS.h3
  obtain ⟨x5, t5, h5⟩ := hS.h5
  obtain ⟨x9, t9, h9⟩ := hS.h9
  have hL := hS.laid
  have n13 := hS.n13
  have n15 := hS.n15
  have n19 := hS.n19
  have n35 := hS.n35
  have n39 := hS.n39
  have n59 := hS.n59
  rcases h with ⟨rfl, rfl⟩ | ⟨rfl, rfl⟩ | ⟨rfl, rfl⟩ | ⟨rfl, rfl⟩ | ⟨rfl, rfl⟩ | ⟨h, rfl⟩
  · go_enter Tryz.func35, Tryz.ntmps35
    go_wp2_with fail
    refine (is_nil a1 _).mono ?_
    rintro e w1 ⟨rfl, rfl⟩
    go_wp2_with fail
    refine (is_nil a3 _).mono ?_
    rintro e w1 ⟨rfl, rfl⟩
    go_wp2_with fail
    refine (is_nil a5 _).mono ?_
    rintro e w1 ⟨rfl, rfl⟩
    go_wp2_with fail
    refine (is_nil a9 _).mono ?_
    rintro e w1 ⟨rfl, rfl⟩
    go_wp2_with fail
    refine (code_nil _).mono ?_
    rintro e w2 ⟨rfl, hb⟩
    go_wp2
    go_ret
    exact ⟨rfl, hb⟩
  · go_enter Tryz.func35, Tryz.ntmps35
    go_wp2_with fail
    refine (is_same a1 _).mono ?_
    rintro e w1 ⟨rfl, rfl⟩
    go_wp2
    go_ret
    exact ⟨rfl, Below.refl _ _⟩
  · go_enter Tryz.func35, Tryz.ntmps35
    go_wp2_with fail
    refine (is_other a3 a1 _ _ _ _ _ (Ne.symm n13) h3 h1).mono ?_
    rintro e w1 ⟨rfl, rfl⟩
    go_wp2_with fail
    refine (is_same a3 _).mono ?_
    rintro e w1 ⟨rfl, rfl⟩
    go_wp2
    go_ret
    exact ⟨rfl, Below.refl _ _⟩
  · go_enter Tryz.func35, Tryz.ntmps35
    go_wp2_with fail
    refine (is_other a5 a1 _ _ _ _ _ (Ne.symm n15) h5 h1).mono ?_
    rintro e w1 ⟨rfl, rfl⟩
    go_wp2_with fail
    refine (is_other a5 a3 _ _ _ _ _ (Ne.symm n35) h5 h3).mono ?_
    rintro e w1 ⟨rfl, rfl⟩
    go_wp2_with fail
    refine (is_same a5 _).mono ?_
    rintro e w1 ⟨rfl, rfl⟩
    go_wp2
    go_ret
    exact ⟨rfl, Below.refl _ _⟩
  · go_enter Tryz.func35, Tryz.ntmps35
    go_wp2_with fail
    refine (is_other a9 a1 _ _ _ _ _ (Ne.symm n19) h9 h1).mono ?_
    rintro e w1 ⟨rfl, rfl⟩
    go_wp2_with fail
    refine (is_other a9 a3 _ _ _ _ _ (Ne.symm n39) h9 h3).mono ?_
    rintro e w1 ⟨rfl, rfl⟩
    go_wp2_with fail
    refine (is_other a9 a5 _ _ _ _ _ (Ne.symm n59) h9 h5).mono ?_
    rintro e w1 ⟨rfl, rfl⟩
    go_wp2_with fail
    refine (is_same a9 _).mono ?_
    rintro e w1 ⟨rfl, rfl⟩
    go_wp2
    go_ret
    exact ⟨rfl, Below.refl _ _⟩
  · go_enter Tryz.func35, Tryz.ntmps35
    go_wp2_with fail
    refine (is_fault k a1 _).mono ?_
    rintro e w1 ⟨rfl, rfl⟩
    go_wp2_with fail
    refine (is_fault k a3 _).mono ?_
    rintro e w1 ⟨rfl, rfl⟩
    go_wp2_with fail
    refine (is_fault k a5 _).mono ?_
    rintro e w1 ⟨rfl, rfl⟩
    go_wp2_with fail
    refine (is_fault k a9 _).mono ?_
    rintro e w1 ⟨rfl, rfl⟩
    go_wp2_with fail
    refine (code_fault k _ hL).mono ?_
    rintro e w2 ⟨rfl, hb⟩
    go_wp2
    go_ret
    exact ⟨rfl, hb⟩
end Go.Proofs.YtfiabbfdnmldjaaGreatDoor.U1

/-
  What the listed variables give a walk: the four sentinels, each at a place of its own, and the variable that errors.As reads.
-/
namespace Go.Proofs.YtfiabbfdnmldjaaGreatDoor.U7
open Go.RowKit
open Go.Proofs.YtfiabbfdnmldjaaGreatDoor.U1
theorem vars_length {H : Type} {enc : TypeId × Value → H} {P : Program} {w : World} {sp : Nat → Bool} : ∀ (ns : List String) (gs : List (DataW H)) (ps : List MemPlace), DataW.TrodVars enc P w sp ns gs ps → gs.length = ns.length
  | [], [], _, _ => rfl
  | _ :: ns, _ :: gs, _, h => by
    obtain ⟨_, _, _, _, _, q, _, _, _, _, h', _⟩ := h
    simp [vars_length ns gs q h']
  | [], _ :: _, _, h => h.elim
  | _ :: _, [], _, h => h.elim
theorem four_of {H : Type} {gs : List (DataW H)} (h : gs.length = 4) : ∃ a b c d, gs = [a, b, c, d] := by
  match gs, h with
  | [a, b, c, d], _ => exact ⟨a, b, c, d, rfl⟩
abbrev dat (t : List UInt8) : DataW Unit := .iface "*errors.errorString" (.ptr (.agg [.lit (.string t)]))
def txtOf : DataW Unit → List UInt8
  | .iface _ (.ptr (.agg [.lit (.string t)])) => t
  | _ => []
theorem star : "*" ++ "errors.errorString" = "*errors.errorString" := by decide
theorem rowE (u : TypeId) (h : Tryz.prog.typeName? 3 u = some "*errors.errorString") : u = 172 :=
  typeName_ptr_named (nm := "errors.errorString") (by rw [star]; kernel_rfl) (by kernel_rfl) (by decide) u (by rw [star]; exact h)
theorem cellsE : Tryz.prog.cellsOf 193 = 1 := by kernel_rfl
theorem cellsS : Tryz.prog.cellsOf 9 = 1 := by kernel_rfl
theorem skip {P : Program} {x y : String × DataW Unit} {r : List (String × DataW Unit)} {w : World} (h : laidMet P (x :: y :: r) w) : laidMet P (x :: r) w := by
  obtain ⟨ps, hv, hnd, hrows⟩ := h
  obtain ⟨n, d⟩ := x
  obtain ⟨m, d'⟩ := y
  obtain ⟨g, t, cs, fuel, p, q, h1, h2, h3, h4, ⟨g', t', cs', fuel', p', q', _, _, _, _, hq, rfl⟩, rfl⟩ := hv
  refine ⟨_, ⟨g, t, cs, fuel, p, q', h1, h2, h3, h4, hq, rfl⟩, ?_, fun b off hm => hrows b off ?_⟩
  · exact List.Nodup.sublist (List.Sublist.append_left (List.sublist_append_right _ _) _) hnd
  · rcases List.mem_append.1 hm with h | h
    · exact List.mem_append_left _ h
    · exact List.mem_append_right _ (List.mem_append_right _ h)
abbrev nE : String := "*errors.errorString"
theorem pair {n0 n1 : String} {t0 t1 : List UInt8} {r : List (String × DataW Unit)} {W : World} {g0 g1 : Nat} (h : laidMet Tryz.prog ((n0, dat t0) :: (n1, dat t1) :: r) W) (hg0 : Tryz.prog.globalNamed n0 = some g0) (ht0 : (Tryz.prog.globals[g0]?).map (·.type) = some 59) (hg1 : Tryz.prog.globalNamed n1 = some g1) (ht1 : (Tryz.prog.globals[g1]?).map (·.type) = some 59) :
    ∃ a b, W.cell? ⟨g0, 0, none⟩ = some (sent a) ∧ W.cell? ⟨g1, 0, none⟩ = some (sent b) ∧ a ≠ b ∧ (∃ c t, W.heap[a.block]? = some (.cells c t (0, 0))) ∧ ∃ c t, W.heap[b.block]? = some (.cells c t (0, 0)) := by
  obtain ⟨a0, a1, s0, s1, c0, c1, u0, u1, hv0, hv1, -, -, -, -, -, -, hne, hb0, hb1⟩ := laid_sentinels2 h hg0 ht0 hg1 ht1 Tryz.underlying59 rowE Tryz.underlying172 Tryz.underlying193 rfl rfl Tryz.underlying9 cellsE cellsS
  exact ⟨a0, a1, by simpa using World.var?_cell hg0 hv0 0, by simpa using World.var?_cell hg1 hv1 0, hne, ⟨c0, u0, hb0⟩, ⟨c1, u1, hb1⟩⟩
theorem same_sent {W : World} {g : Nat} {a b : Addr} (h : W.cell? ⟨g, 0, none⟩ = some (sent a)) (k : W.cell? ⟨g, 0, none⟩ = some (sent b)) : a = b := by
  rw [h] at k
  simpa [sent] using k
/-- The variables' numbers and types, as the program has them. -/
theorem ty1 : (Tryz.prog.globals[0]?).map (·.type) = some 59 := by kernel_rfl
theorem ty3 : (Tryz.prog.globals[1]?).map (·.type) = some 59 := by kernel_rfl
theorem ty5 : (Tryz.prog.globals[2]?).map (·.type) = some 59 := by kernel_rfl
theorem ty9 : (Tryz.prog.globals[3]?).map (·.type) = some 59 := by kernel_rfl
theorem sents_of {W : World} {n1 n3 n5 n9 : String} {t1 t3 t5 t9 : List UInt8} (h : laidMet Tryz.prog [(n1, dat t1), (n3, dat t3), (n5, dat t5), (n9, dat t9)] W) (g1 : Tryz.prog.globalNamed n1 = some 0) (g3 : Tryz.prog.globalNamed n3 = some 1) (g5 : Tryz.prog.globalNamed n5 = some 2) (g9 : Tryz.prog.globalNamed n9 = some 3) (hL : CF.Laid W) :
    ∃ a1 a3 a5 a9, Sents W a1 a3 a5 a9 := by
  obtain ⟨a1, a3, c1, c3, n13, h1, h3⟩ := pair h g1 ty1 g3 ty3
  obtain ⟨b1, a5, d1, c5, n15, -, h5⟩ := pair (skip h) g1 ty1 g5 ty5
  obtain ⟨e1, a9, f1, c9, n19, -, h9⟩ := pair (skip (skip h)) g1 ty1 g9 ty9
  obtain ⟨b3, b5, d3, d5, n35, -, -⟩ := pair h.tail g3 ty3 g5 ty5
  obtain ⟨e3, b9, f3, d9, n39, -, -⟩ := pair (skip h.tail) g3 ty3 g9 ty9
  obtain ⟨e5, e9, f5, f9, n59, -, -⟩ := pair h.tail.tail g5 ty5 g9 ty9
  obtain rfl := same_sent c1 d1
  obtain rfl := same_sent c1 f1
  obtain rfl := same_sent c3 d3
  obtain rfl := same_sent c3 f3
  obtain rfl := same_sent c5 d5
  obtain rfl := same_sent c5 f5
  obtain rfl := same_sent c9 d9
  obtain rfl := same_sent c9 f9
  exact ⟨a1, a3, a5, a9, c1, c3, c5, c9, n13, n15, n19, n35, n39, n59, h1, h3, h5, h9, hL⟩
end Go.Proofs.YtfiabbfdnmldjaaGreatDoor.U7
