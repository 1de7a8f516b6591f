/-
  Lines put one behind the other, in the program: the library's Grow and Concat.
-/
import Derived.Test.YtkpjdmmgdmbmnaaDoorID
import Derived.Test.YtkpjdmmgdmbmnaaDoorI3
import Derived.Lib.AppendZeros
namespace Go.Proofs.YtkpjdmmgdmbmnaaDoor.IE
open Go.RowKit
open Go.Proofs.YtkpjdmmgdmbmnaaDoor.C0 Go.Proofs.YtkpjdmmgdmbmnaaDoor.HB
open Go.Proofs.YtkpjdmmgdmbmnaaDoor.A0 Go.Proofs.YtkpjdmmgdmbmnaaDoor.A1 Go.Proofs.YtkpjdmmgdmbmnaaDoor.A2 Go.Proofs.YtkpjdmmgdmbmnaaDoor.A4 Go.Proofs.YtkpjdmmgdmbmnaaDoor.I1

section
variable {P : Program} (w : World)
theorem run_onto (t ty e : TypeId) (i : TypeInfo) (z : Value) (size bytes : Nat) (ht : P.underlying t = some (.slice e)) (hi : P.info? e = some i) (hz : i.zero = some z)
    (hsize : i.size = size) (hby : i.bytes = bytes) (hzs : z.cells.size = size) (hsz : 0 < size) (base g c0 : Nat) (hown : w.ownsRow base e size (.slice (some ⟨g, 0, none⟩) 0 c0) 0 [])
    (a : Option Addr) (m c : Nat) (news : List Value) (hl : news.length = m * size) (h0 : 0 < m → ∃ ad, a = some ad ∧ ∀ j u, news[j]? = some u → w.cell? (ad.add j) = some u) (h1 : ∀ u ∈ news, u.oneCell' = true)
    (h63 : m ≤ maxLen) (hbytes : m * bytes ≤ 140737488355328) (hbase : base ≤ w.heap.size) :
    ∃ a' c' w', (Builtin.append_ #[t, t] ty #[.slice (some ⟨g, 0, none⟩) 0 c0, .slice a m c]).run P w = .ok (.slice a' m c') w' ∧ w'.ownsRow base e size (.slice a' m c') m news ∧ w.grownBy w' (some g) := by
  rcases Nat.eq_zero_or_pos m with hm | hm
  · subst hm
    obtain rfl : news = [] := List.length_eq_zero_iff.1 (by omega)
    have hs : Src P i.size t (.slice a 0 c) 0 [] w := by
      cases a with
      | none => exact Src.ofNil w ht c
      | some ad => exact Src.ofSlice w ht ad 0 c [] (by simp) (fun j u h => by simp at h) (fun u h => by cases h)
    have hr := run_append_room_src (P := P) w t t ty e i ht hi g 0 0 c0 _ 0 [] hs (by omega) (fun j h => by simp at h) (fun j h => by simp at h)
    exact ⟨some ⟨g, 0, none⟩, c0, w, hr, hown, ⟨rfl, rfl, rfl, Nat.le_refl _, fun _ _ _ => rfl⟩⟩
  · obtain ⟨ad, rfl, hc⟩ := h0 hm
    obtain ⟨v', w', hr, h2, h3, _, _⟩ := run_append_own_at (P := P) w base t ty e i z size bytes ht hi hz hsize hby hzs hsz _ 0 [] hown ad m c news hl hc h1 (by omega) (by simpa using hbytes) hbase
    simp only [Nat.zero_add, List.nil_append] at h2
    obtain ⟨g', cap', rfl, _⟩ := h2.form hm
    exact ⟨_, _, w', hr, h2, h3⟩
theorem wp_onto {o : Oper} {f : Act} {K : Act → World → Prop} {Q : Exit → Act → World → Prop} (s x : Operand) (t : TypeId)
    (ho : o.op = .call { callee := .builtin .append, args := #[s, x], argTypes := #[t, t] }) (e : TypeId) (i : TypeInfo) (z : Value) (size bytes : Nat) (ht : P.underlying t = some (.slice e)) (hi : P.info? e = some i) (hz : i.zero = some z)
    (hsize : i.size = size) (hby : i.bytes = bytes) (hzs : z.cells.size = size) (hsz : 0 < size) (base g c0 : Nat) (hs : f.eval s = .slice (some ⟨g, 0, none⟩) 0 c0) (hown : w.ownsRow base e size (.slice (some ⟨g, 0, none⟩) 0 c0) 0 [])
    (a : Option Addr) (m c : Nat) (hx : f.eval x = .slice a m c) (news : List Value) (hl : news.length = m * size) (h0 : 0 < m → ∃ ad, a = some ad ∧ ∀ j u, news[j]? = some u → w.cell? (ad.add j) = some u) (h1 : ∀ u ∈ news, u.oneCell' = true)
    (h63 : m ≤ maxLen) (hbytes : m * bytes ≤ 140737488355328) (hbase : base ≤ w.heap.size)
    (h : ∀ a' c' w', w'.ownsRow base e size (.slice a' m c') m news → w.grownBy w' (some g) → K (f.put o.dst (.slice a' m c')) w') : o.wp P f w K Q := by
  obtain ⟨a', c', w', hr, h2, h3⟩ := run_onto (P := P) w t o.type e i z size bytes ht hi hz hsize hby hzs hsz base g c0 hown a m c news hl h0 h1 h63 hbytes hbase
  unfold Oper.wp execOp
  simp only [ho, resolve, invoke, builtin, Sem.run_bind, Sem.run_pure, Result.andThen_ok, List.map_toArray, List.map_cons, List.map_nil, hs, hx, hr]
  exact h a' c' w' h2 h3
theorem list_onto {ops : Array Oper} {rest : List Oper} {o : Oper} {f : Act} {Q : Exit → Act → World → Prop} (hgd : o.guard = none) (s x : Operand) (t : TypeId)
    (ho : o.op = .call { callee := .builtin .append, args := #[s, x], argTypes := #[t, t] }) (e : TypeId) (i : TypeInfo) (z : Value) (size bytes : Nat) (ht : P.underlying t = some (.slice e)) (hi : P.info? e = some i) (hz : i.zero = some z)
    (hsize : i.size = size) (hby : i.bytes = bytes) (hzs : z.cells.size = size) (hsz : 0 < size) (base g c0 : Nat) (hs : f.eval s = .slice (some ⟨g, 0, none⟩) 0 c0) (hown : w.ownsRow base e size (.slice (some ⟨g, 0, none⟩) 0 c0) 0 [])
    (a : Option Addr) (m c : Nat) (hx : f.eval x = .slice a m c) (news : List Value) (hl : news.length = m * size) (h0 : 0 < m → ∃ ad, a = some ad ∧ ∀ j u, news[j]? = some u → w.cell? (ad.add j) = some u) (h1 : ∀ u ∈ news, u.oneCell' = true)
    (h63 : m ≤ maxLen) (hbytes : m * bytes ≤ 140737488355328) (hbase : base ≤ w.heap.size)
    (h : ∀ a' c' w', w'.ownsRow base e size (.slice a' m c') m news → w.grownBy w' (some g) → wpList P ops Q rest (f.put o.dst (.slice a' m c')) w') : wpList P ops Q (o :: rest) f w :=
  wpList_plain hgd fun _ hK => wp_onto w s x t ho e i z size bytes ht hi hz hsize hby hzs hsz base g c0 hs hown a m c hx news hl h0 h1 h63 hbytes hbase fun a' c' w' h2 h3 => hK _ _ (h a' c' w' h2 h3)
end
/-- The cells of lines, one line behind the other. -/
def four (q : Ln × Value) : List Value := [.int .i64 q.1.kind, .string q.1.name, .string q.1.sum, q.2]
def flatL (f : Nat → Ln × Value) (n : Nat) : List Value := (List.range n).flatMap fun k => four (f k)
theorem flat_succ (f : Nat → Ln × Value) (n : Nat) : flatL f (n + 1) = flatL f n ++ four (f n) := by simp [flatL, List.range_succ]
theorem flat_length (f : Nat → Ln × Value) : ∀ n, (flatL f n).length = n * 4
  | 0 => rfl
  | n + 1 => by rw [flat_succ, List.length_append, flat_length f n]; simp [four]; omega
theorem flat_at (f : Nat → Ln × Value) : ∀ n k r, k < n → r < 4 → (flatL f n)[k * 4 + r]? = (four (f k))[r]?
  | 0, k, r, h, _ => by omega
  | n + 1, k, r, h, hr => by
    rw [flat_succ]
    by_cases e : k = n
    · subst e
      rw [List.getElem?_append_right (by rw [flat_length]; omega), flat_length, Nat.add_sub_cancel_left]
    · rw [List.getElem?_append_left (by rw [flat_length]; omega), flat_at f n k r (by omega) hr]
theorem flat_ext (f g : Nat → Ln × Value) (n : Nat) (h : ∀ k, k < n → f k = g k) : flatL f n = flatL g n := by
  induction n with
  | zero => rfl
  | succ n ih => rw [flat_succ, flat_succ, ih (fun k hk => h k (by omega)), h n (by omega)]
theorem flat_cells {w : World} {ad : Addr} {f : Nat → Ln × Value} {n : Nat} (h : ∀ k r u, k < n → r < 4 → (four (f k))[r]? = some u → w.cell? (ad.add (k * 4 + r)) = some u) : ∀ j u, (flatL f n)[j]? = some u → w.cell? (ad.add j) = some u := fun j u hj => by
  have hl : j < n * 4 := by have := (List.getElem?_eq_some_iff.1 hj).1; rwa [flat_length] at this
  have e : j = j / 4 * 4 + j % 4 := by omega
  rw [e] at hj ⊢
  rw [flat_at f n (j / 4) (j % 4) (by omega) (by omega)] at hj
  exact h _ _ _ (by omega) (by omega) hj
theorem flat_one {f : Nat → Ln × Value} {n : Nat} (h : ∀ k, k < n → (f k).2.oneCell' = true) : ∀ u ∈ flatL f n, u.oneCell' = true := by
  intro u hu
  simp only [flatL, List.mem_flatMap, List.mem_range] at hu
  obtain ⟨k, hk, hu⟩ := hu
  simp only [four, List.mem_cons, List.not_mem_nil, or_false] at hu
  rcases hu with rfl | rfl | rfl | rfl
  · rfl
  · rfl
  · rfl
  · exact h k hk
theorem irow_one {w : World} {v : Value} {l : List Int} (h : IRow w v l) : v.oneCell' = true := by
  obtain ⟨a, cap, rfl, _, _⟩ := h; rfl
theorem lrow_own {B : Nat} {w : World} {v : Value} {n : Nat} {f : Nat → Ln × Value} (h : w.ownsRow B 29 4 v n (flatL f n)) (hi : ∀ k, k < n → IRow w (f k).2 (f k).1.cards) (hn : n ≤ maxLen) : LRow w v ((List.range n).map fun k => (f k).1) := by
  have h' := h
  have hl : ((List.range n).map fun k => (f k).1).length = n := by simp
  rcases h.2 with ⟨rfl, h0⟩ | ⟨g, cap, cur, rfl, hb, hg, hnc, hcm, hcs, htake⟩
  · exact ⟨none, 0, by rw [hl, h0], by rw [hl]; exact hn, fun q => by rw [hl] at q; omega⟩
  · refine ⟨_, cap, by rw [hl], by rw [hl]; exact hn, fun _ => ⟨g, 0, rfl, (Array.getElem?_eq_some_iff.1 hg).1, fun k x hx => ?_⟩⟩
    have hk : k < n := by have := (List.getElem?_eq_some_iff.1 hx).1; rwa [hl] at this
    have hx' : (f k).1 = x := by simpa [hk] using hx
    subst hx'
    have c : ∀ r u, r < 4 → (four (f k))[r]? = some u → w.cell? ⟨g, 0 + k * 4 + r, none⟩ = some u := fun r u hr hu => by
      have h3 := World.ownsRow.cells h' rfl (k * 4 + r) u (by rw [flat_at f n k r hk hr]; exact hu)
      rw [NU.add0] at h3
      rw [Nat.add_assoc]; exact h3
    exact ⟨(f k).2, hi k hk, by have := c 0 _ (by omega) rfl; simpa using this, c 1 _ (by omega) rfl, c 2 _ (by omega) rfl, c 3 _ (by omega) rfl⟩
theorem info_line : (Tryd.prog.info? 29).map (fun i => (i.zero, i.size, i.bytes)) = some (some (.agg #[.int .i64 0, .string ⟨#[]⟩, .string ⟨#[]⟩, .slice none 0 0]), 4, 64) := by kernel_rfl
set_option maxRecDepth 100000 in
set_option maxHeartbeats 1600000 in
theorem grow_any (k : Nat) (w : World) (h0 : 0 < k) (hk : k ≤ 1000) :
    Calls Tryd.prog 79 #[.slice none 0 0, .int .i64 (k : Nat)] w fun e w' => ∃ g cap, e = .returned (.slice (some ⟨g, 0, none⟩) 0 cap) ∧ w'.ownsRow w.heap.size 29 4 (.slice (some ⟨g, 0, none⟩) 0 cap) 0 [] ∧ Below w.heap.size w w' := by
  obtain ⟨i0, hi, hz0, hz1, hz2⟩ := info_parts info_line
  have happ := Lib.run_append_nil_zeros (P := Tryd.prog) w 23 3 23 29 i0 (.agg #[.int .i64 0, .string ⟨#[]⟩, .string ⟨#[]⟩, .slice none 0 0]) .i64 .i64 Tryd.underlying23 Tryd.underlying3 hi hz0 k h0 (by omega) (by omega) (by rw [hz2]; omega)
  have hcapge : k ≤ grownCap w k 0 29 := grownCap_ge w _ 0 29
  have hcaple : grownCap w k 0 29 ≤ maxLen := grownCap_le_maxLen w _ 0 29 (by unfold maxLen; omega)
  generalize grownCap w k 0 29 = cap2 at *
  have hZ : (Builtin.zeroCells (Value.agg #[.int .i64 0, .string ⟨#[]⟩, .string ⟨#[]⟩, .slice none 0 0]).cells k ++ Builtin.zeroCells (Value.agg #[.int .i64 0, .string ⟨#[]⟩, .string ⟨#[]⟩, .slice none 0 0]).cells (cap2 - k)).size = cap2 * 4 := by simp [size_zeroCells, Value.cells]; omega
  generalize Builtin.zeroCells (Value.agg #[.int .i64 0, .string ⟨#[]⟩, .string ⟨#[]⟩, .slice none 0 0]).cells k ++ Builtin.zeroCells (Value.agg #[.int .i64 0, .string ⟨#[]⟩, .string ⟨#[]⟩, .slice none 0 0]).cells (cap2 - k) = Z at *
  have HO : Hid ((w.drew.alloc (.cells Z 29)).ownsRow w.heap.size 29 4 (.slice (some ⟨w.heap.size, 0, none⟩) 0 cap2) 0 []) := ⟨rfl, .inr ⟨w.heap.size, cap2, Z, rfl, Nat.le_refl _, heap_alloc_new w.drew _, Nat.zero_le _, hcaple, hZ, rfl⟩⟩
  have HB : Hid (Below w.heap.size w (w.drew.alloc (.cells Z 29))) := ((Below.refl _ _).drew).alloc (Nat.le_refl _) _
  have hk' : ¬ (k : Int) < 0 := by omega
  have hk2 : (0 : Int) < (k : Int) := by omega
  have hkw : IntKind.i64.wrap ((k : Int) - 0) = (k : Int) := by rw [IntKind.wrap_i64]; omega
  go_enter Tryd.func79, Tryd.ntmps79
  go_wp2_with (at_builtin; refine Lib.wpList_append_run _ rfl _ _ _ _ rfl _ _ rfl rfl _ _ happ ?_)
  go_ret
  exact ⟨_, _, rfl, HO.out, HB.out⟩
theorem add0 (b off j : Nat) : (⟨b, off, none⟩ : Addr).add j = ⟨b, off + j, none⟩ := by unfold Addr.add; split <;> simp_all
def pairs (ls : List Ln) (vcs : Nat → Value) (x : Ln) (vx : Value) (k : Nat) : Ln × Value := if k < ls.length then (lAt ls k, vcs k) else (x, vx)
theorem pairs_map (ls : List Ln) (vcs : Nat → Value) (x : Ln) (vx : Value) : ((List.range (ls.length + 1)).map fun k => (pairs ls vcs x vx k).1) = ls ++ [x] := by
  apply List.ext_getElem?
  intro i
  by_cases h1 : i < ls.length
  · rw [List.getElem?_append_left h1, List.getElem?_map, List.getElem?_range (by omega)]
    simp only [Option.map_some, pairs, if_pos h1]
    exact (lAt_get h1).symm
  · by_cases h2 : i = ls.length
    · subst h2
      rw [List.getElem?_append_right (Nat.le_refl _), List.getElem?_map, List.getElem?_range (by omega)]
      simp [pairs]
    · rw [List.getElem?_eq_none (by simp; omega), List.getElem?_eq_none (by simp; omega)]
def mOf (n k : Nat) : Nat := if k = 0 then 0 else if k = 1 then n else n + 1
set_option maxRecDepth 100000 in
set_option maxHeartbeats 3200000 in
theorem concat_any (a0 : Option Addr) (c0 : Nat) (ls : List Ln) (x : Ln) (vcs : Nat → Value) (vx : Value) (w : World) (sB xB : Nat) (hn : ls.length ≤ 12)
    (s0 : w.cell? ⟨sB, 0, none⟩ = some (.slice a0 ls.length c0)) (s1 : w.cell? ⟨sB, 1, none⟩ = some (.slice (some ⟨xB, 0, none⟩) 1 1))
    (x0 : w.cell? ⟨xB, 0, none⟩ = some (.int .i64 x.kind)) (x1 : w.cell? ⟨xB, 1, none⟩ = some (.string x.name)) (x2 : w.cell? ⟨xB, 2, none⟩ = some (.string x.sum)) (x3 : w.cell? ⟨xB, 3, none⟩ = some vx)
    (hl : I2.Lies w a0 ls vcs) (hx : IRow w vx x.cards) :
    Calls Tryd.prog 40 #[.slice (some ⟨sB, 0, none⟩) 2 2] w fun e w' => ∃ a cap, e = .returned (.slice a (ls.length + 1) cap) ∧ LRow w' (.slice a (ls.length + 1) cap) (ls ++ [x]) ∧ Below w.heap.size w w' := by
  have hsB := World.block_lt_of_cell? w _ s0
  have hxB := World.block_lt_of_cell? w _ x0
  have HXC : Hid (∀ y, Below w.heap.size w y → ∀ j u, (four (x, vx))[j]? = some u → y.cell? ((⟨xB, 0, none⟩ : Addr).add j) = some u) := fun y hy j u hu => by
    rw [add0, Nat.zero_add, hy.cell (p := ⟨xB, j, none⟩) hxB]
    match j, hu with
    | 0, hu => cases hu; exact x0
    | 1, hu => cases hu; exact x1
    | 2, hu => cases hu; exact x2
    | 3, hu => cases hu; exact x3
    | j + 4, hu => simp [four] at hu
  have HLC : Hid (∀ y, Below w.heap.size w y → 0 < ls.length → ∃ ad, a0 = some ad ∧ ∀ j u, (flatL (pairs ls vcs x vx) ls.length)[j]? = some u → y.cell? (ad.add j) = some u) := fun y hy h0 => by
    obtain ⟨b, off, rfl, hb, hcc⟩ := hl.cells h0
    refine ⟨_, rfl, flat_cells fun k r u hk hr hu => ?_⟩
    obtain ⟨p0, p1, p2, p3⟩ := hcc k hk
    rw [add0, hy.cell (p := ⟨b, off + (k * 4 + r), none⟩) hb]
    have e : pairs ls vcs x vx k = (lAt ls k, vcs k) := if_pos hk
    rw [e] at hu
    match r, hr, hu with
    | 0, _, hu => cases hu; exact p0
    | 1, _, hu => cases hu; rw [← Nat.add_assoc]; exact p1
    | 2, _, hu => cases hu; rw [← Nat.add_assoc]; exact p2
    | 3, _, hu => cases hu; rw [← Nat.add_assoc]; exact p3
  have HI : Hid (∀ k, k < ls.length + 1 → IRow w (pairs ls vcs x vx k).2 (pairs ls vcs x vx k).1.cards) := fun k _ => by
    unfold pairs
    split
    · exact hl.cards k
    · exact hx
  have HONE : Hid (∀ n, n ≤ ls.length + 1 → ∀ u ∈ flatL (pairs ls vcs x vx) n, u.oneCell' = true) := fun n h => flat_one fun k hk => irow_one (HI.out k (by omega))
  have HLAST : Hid (flatL (pairs ls vcs x vx) (ls.length + 1) = flatL (pairs ls vcs x vx) ls.length ++ four (x, vx)) := by unfold Hid; rw [flat_succ]; congr 2; unfold pairs; rw [if_neg (by omega)]
  have HLEN : Hid ((flatL (pairs ls vcs x vx) ls.length).length = ls.length * 4) := flat_length _ _
  have HMAP : Hid (((List.range (ls.length + 1)).map fun k => (pairs ls vcs x vx k).1) = ls ++ [x]) := pairs_map ls vcs x vx
  have HX1 : Hid (∀ u ∈ four (x, vx), u.oneCell' = true) := fun u hu => HONE.out (ls.length + 1) (Nat.le_refl _) u (by rw [HLAST.out]; exact List.mem_append_right _ hu)
  obtain ⟨i0, hi, hz0, hz1, hz2⟩ := info_parts info_line
  have S0 : Hid (∀ y, Below w.heap.size w y → y.cell? ⟨sB, 0, none⟩ = some (.slice a0 ls.length c0)) := fun y hy => (hy.cell (p := ⟨sB, 0, none⟩) hsB).trans s0
  have S1 : Hid (∀ y, Below w.heap.size w y → y.cell? ⟨sB, 1, none⟩ = some (.slice (some ⟨xB, 0, none⟩) 1 1)) := fun y hy => (hy.cell (p := ⟨sB, 1, none⟩) hsB).trans s1
  have hnl : ls.length ≤ maxLen := hl.len
  generalize pairs ls vcs x vx = f at *
  clear s0 s1 x0 x1 x2 x3 hl hx
  generalize hN : ls.length = n at *
  go_enter Tryd.func40, Tryd.ntmps40
  go_wp2_with fail
  go_loopw [3, 11] (fun s i y => ∃ k : Nat, k ≤ 2 ∧ i = .int .i64 (k : Nat) ∧ s = .int .i64 (mOf n k : Nat) ∧ Below w.heap.size w y) (fun _ i _ => 2 - (intOf i).toNat)
  case atStart => exact ⟨0, Nat.zero_le _, rfl, rfl, Below.refl _ _⟩
  case round =>
    obtain ⟨k, hk, rfl, rfl, hbel⟩ := hrel
    have c0' := S0.out _ hbel
    have c1' := S1.out _ hbel
    match k, hk with
    | 0, _ =>
      have e0 : mOf n 0 = 0 := rfl
      rw [e0]
      go_wp2
      go_roundw
      case rel => exact ⟨1, by omega, rfl, by go_num, hbel⟩
      case measure => simp [intOf]
    | 1, _ =>
      have e0 : mOf n 1 = n := rfl
      have hw1 : IntKind.i64.wrap ((n : Int) + 1) = ((n + 1 : Nat) : Int) := by rw [IntKind.wrap_i64]; omega
      have hn0 : ¬ ((n : Int) + 1) < 0 := by omega
      rw [e0]
      go_wp2
      go_roundw
      case rel => exact ⟨2, by omega, rfl, by go_num, hbel⟩
      case measure => simp [intOf]
    | 2, _ =>
      have e0 : mOf n 2 = n + 1 := rfl
      rw [e0]
      clear c0' c1'
      go_wp2_with fail
      refine (grow_any (n + 1) _ (by omega) (by omega)).mono ?_
      rintro e w1 ⟨g, cap, rfl, hown, hb1⟩
      have B1 : Hid (Below w.heap.size w w1) := bel2 hbel hb1
      have O1 : Hid (w1.ownsRow w.heap.size 29 4 (.slice (some ⟨g, 0, none⟩) 0 cap) 0 []) := NU.own_mono hown hbel.size
      clear hown hb1 hbel
      go_wp2_with fail
      go_loopw [6, 27] (fun t i y => ∃ k : Nat, k ≤ 2 ∧ i = .int .i64 (k : Nat) ∧ (∃ a' c', t = .slice a' (mOf n k) c') ∧ y.ownsRow w.heap.size 29 4 t (mOf n k) (flatL f (mOf n k)) ∧ (k = 0 → ∃ g c, t = .slice (some ⟨g, 0, none⟩) 0 c) ∧ Below w.heap.size w y) (fun _ i _ => 2 - (intOf i).toNat)
      case atStart => exact ⟨0, Nat.zero_le _, rfl, ⟨_, _, rfl⟩, O1.out, fun _ => ⟨_, _, rfl⟩, B1.out⟩
      case round =>
        clear O1 B1
        obtain ⟨k, hk, rfl, hform, hown, hg0, hbel⟩ := hrel
        have hsz := hbel.size
        match k, hk with
        | 0, _ =>
          obtain ⟨g2, c2, rfl⟩ := hg0 rfl
          have e0 : mOf n 0 = 0 := rfl
          rw [e0] at hown
          have c0' := S0.out _ hbel
          have hsrc := HLC.out _ hbel
          have hone := HONE.out n (by omega)
          clear hform hg0
          go_wp2_with (first
            | (at_builtin; refine list_onto _ rfl _ _ 23 rfl 29 i0 (.agg #[.int .i64 0, .string ⟨#[]⟩, .string ⟨#[]⟩, .slice none 0 0]) 4 64 Tryd.underlying23 hi hz0 hz1 hz2 rfl (by decide) w.heap.size g2 c2 rfl hown _ _ _ rfl (flatL f n) HLEN.out hsrc hone (by unfold maxLen; omega) (by omega) hsz ?_; intro a3 c3 w3 hown3 hg3))
          have B3 : Hid (Below w.heap.size w w3) := hbel.grown hg3 hsz (fun k h => hown.lt k (by rw [← h]; rfl) |>.1)
          have O3 : Hid _ := hown3
          clear hown3 hg3 hown hbel
          go_wp2
          go_roundw
          case rel => exact ⟨1, by omega, rfl, ⟨_, _, rfl⟩, O3.out, (fun h => by cases h), B3.out⟩
          case measure => simp [intOf]
        | 1, _ =>
          obtain ⟨a', c', rfl⟩ := hform
          have e0 : mOf n 1 = n := rfl
          rw [e0] at hown ⊢
          have c1' := S1.out _ hbel
          have hnews := HXC.out _ hbel
          have hx1 := HX1.out
          clear hg0
          go_wp2_with (first
            | (at_builtin; refine NU.list_app (by rfl) _ _ 23 29 (by rfl) w.heap.size (.agg #[.int .i64 0, .string ⟨#[]⟩, .string ⟨#[]⟩, .slice none 0 0]) 4 64 Tryd.underlying23 info_line (by rfl) (by decide) (by decide) _ _ _ (by rfl) hown (by omega) ⟨xB, 0, none⟩ 1 (four (x, vx)) (by rfl) (by rfl) hnews hx1 hsz ?_; intro g3 c3 w3 hown3 hg3 hat3 hlt3))
          have B3 : Hid (Below w.heap.size w w3) := NU.grown_bel hbel hown hg3 hsz
          have O3 : Hid (w3.ownsRow w.heap.size 29 4 (.slice (some ⟨g3, 0, none⟩) (n + 1) c3) (n + 1) (flatL f (n + 1))) := by unfold Hid; rw [HLAST.out]; exact hown3
          clear hown3 hg3 hown hbel hat3 hlt3
          go_wp2
          go_roundw
          case rel => exact ⟨2, by omega, rfl, ⟨_, _, rfl⟩, O3.out, (fun h => by cases h), B3.out⟩
          case measure => simp [intOf]
        | 2, _ =>
          obtain ⟨a', c', rfl⟩ := hform
          have e0 : mOf n 2 = n + 1 := rfl
          rw [e0] at hown ⊢
          have HF : Hid (LRow wr (.slice a' (n + 1) c') (ls ++ [x])) := by
            unfold Hid
            rw [← HMAP.out]
            exact lrow_own hown (fun k hk => (HI.out k hk).below hbel) (by unfold maxLen; omega)
          have HB : Hid (Below w.heap.size w wr) := hbel
          clear hown hbel hg0
          go_wp2
          go_ret
          exact ⟨_, _, rfl, HF.out, HB.out⟩
end Go.Proofs.YtkpjdmmgdmbmnaaDoor.IE
