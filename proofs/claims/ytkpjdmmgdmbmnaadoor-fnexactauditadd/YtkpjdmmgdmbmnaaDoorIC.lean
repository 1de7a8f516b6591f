/-
  A row that is copied: append of all of it onto a row of the call's own that holds nothing; whole numbers, texts.
-/
import Derived.Test.YtkpjdmmgdmbmnaaDoorA6
import Derived.Test.YtkpjdmmgdmbmnaaDoorA7
import Derived.Test.YtkpjdmmgdmbmnaaDoorA4
import Derived.Test.YtkpjdmmgdmbmnaaDoorI1
import Derived.Deep.AppendSrc
import Derived.Maps.AppendAt
import Derived.Deep.AppendLies
import Derived.Deep.RegionHeld3
namespace Go.Proofs.YtkpjdmmgdmbmnaaDoor.IC
open Go.RowKit
open Go.Proofs.YtkpjdmmgdmbmnaaDoor.C0 Go.Proofs.YtkpjdmmgdmbmnaaDoor.HB
open Go.Proofs.YtkpjdmmgdmbmnaaDoor.A0 Go.Proofs.YtkpjdmmgdmbmnaaDoor.A1 Go.Proofs.YtkpjdmmgdmbmnaaDoor.A2 Go.Proofs.YtkpjdmmgdmbmnaaDoor.A4 Go.Proofs.YtkpjdmmgdmbmnaaDoor.A6 Go.Proofs.YtkpjdmmgdmbmnaaDoor.A7 Go.Proofs.YtkpjdmmgdmbmnaaDoor.I1

section
variable {P : Program} (w : World)
theorem run_copy (t ty e : TypeId) (i : TypeInfo) (z : Value) (size bytes : Nat) (ht : P.underlying t = some (.slice e)) (hi : P.info? e = some i) (hz : i.zero = some z)
    (hsize : i.size = size) (hby : i.bytes = bytes) (hzs : z.cells.size = size) (hsz : 0 < size) (base g : Nat) (hown : w.ownsRow base e size (.slice (some ⟨g, 0, none⟩) 0 0) 0 [])
    (a : Option Addr) (m c : Nat) (news : List Value) (hl : news.length = m * size) (h0 : 0 < m → ∃ ad, a = some ad ∧ ∀ j u, news[j]? = some u → w.cell? (ad.add j) = some u) (h1 : ∀ u ∈ news, u.oneCell' = true)
    (h63 : m ≤ maxLen) (hbytes : m * bytes ≤ 140737488355328) (hbase : base ≤ w.heap.size) :
    ∃ a' c' w', (Builtin.append_ #[t, t] ty #[.slice (some ⟨g, 0, none⟩) 0 0, .slice a m c]).run P w = .ok (.slice a' m c') w' ∧ w'.ownsRow base e size (.slice a' m c') m news ∧ w.grownBy w' (some g) := by
  rcases Nat.eq_zero_or_pos m with hm | hm
  · subst hm
    obtain rfl : news = [] := List.length_eq_zero_iff.1 (by omega)
    have hs : Src P i.size t (.slice a 0 c) 0 [] w := by
      cases a with
      | none => exact Src.ofNil w ht c
      | some ad => exact Src.ofSlice w ht ad 0 c [] (by simp) (fun j u h => by simp at h) (fun u h => by cases h)
    have hr := run_append_room_src (P := P) w t t ty e i ht hi g 0 0 0 _ 0 [] hs (by omega) (fun j h => by simp at h) (fun j h => by simp at h)
    exact ⟨some ⟨g, 0, none⟩, 0, w, hr, hown, ⟨rfl, rfl, rfl, Nat.le_refl _, fun _ _ _ => rfl⟩⟩
  · obtain ⟨ad, rfl, hc⟩ := h0 hm
    obtain ⟨v', w', hr, h2, h3, _, _⟩ := run_append_own_at (P := P) w base t ty e i z size bytes ht hi hz hsize hby hzs hsz _ 0 [] hown ad m c news hl hc h1 (by omega) (by simpa using hbytes) hbase
    simp only [Nat.zero_add, List.nil_append] at h2
    obtain ⟨g', cap', rfl, _⟩ := h2.form hm
    exact ⟨_, _, w', hr, h2, h3⟩
theorem wp_copy {o : Oper} {f : Act} {K : Act → World → Prop} {Q : Exit → Act → World → Prop} (s x : Operand) (t : TypeId)
    (ho : o.op = .call { callee := .builtin .append, args := #[s, x], argTypes := #[t, t] }) (e : TypeId) (i : TypeInfo) (z : Value) (size bytes : Nat) (ht : P.underlying t = some (.slice e)) (hi : P.info? e = some i) (hz : i.zero = some z)
    (hsize : i.size = size) (hby : i.bytes = bytes) (hzs : z.cells.size = size) (hsz : 0 < size) (base g : Nat) (hs : f.eval s = .slice (some ⟨g, 0, none⟩) 0 0) (hown : w.ownsRow base e size (.slice (some ⟨g, 0, none⟩) 0 0) 0 [])
    (a : Option Addr) (m c : Nat) (hx : f.eval x = .slice a m c) (news : List Value) (hl : news.length = m * size) (h0 : 0 < m → ∃ ad, a = some ad ∧ ∀ j u, news[j]? = some u → w.cell? (ad.add j) = some u) (h1 : ∀ u ∈ news, u.oneCell' = true)
    (h63 : m ≤ maxLen) (hbytes : m * bytes ≤ 140737488355328) (hbase : base ≤ w.heap.size)
    (h : ∀ a' c' w', w'.ownsRow base e size (.slice a' m c') m news → w.grownBy w' (some g) → K (f.put o.dst (.slice a' m c')) w') : o.wp P f w K Q := by
  obtain ⟨a', c', w', hr, h2, h3⟩ := run_copy (P := P) w t o.type e i z size bytes ht hi hz hsize hby hzs hsz base g hown a m c news hl h0 h1 h63 hbytes hbase
  unfold Oper.wp execOp
  simp only [ho, resolve, invoke, builtin, Sem.run_bind, Sem.run_pure, Result.andThen_ok, List.map_toArray, List.map_cons, List.map_nil, hs, hx, hr]
  exact h a' c' w' h2 h3
theorem wpList_copy {ops : Array Oper} {rest : List Oper} {o : Oper} {f : Act} {Q : Exit → Act → World → Prop} (hgd : o.guard = none) (s x : Operand) (t : TypeId)
    (ho : o.op = .call { callee := .builtin .append, args := #[s, x], argTypes := #[t, t] }) (e : TypeId) (i : TypeInfo) (z : Value) (size bytes : Nat) (ht : P.underlying t = some (.slice e)) (hi : P.info? e = some i) (hz : i.zero = some z)
    (hsize : i.size = size) (hby : i.bytes = bytes) (hzs : z.cells.size = size) (hsz : 0 < size) (base g : Nat) (hs : f.eval s = .slice (some ⟨g, 0, none⟩) 0 0) (hown : w.ownsRow base e size (.slice (some ⟨g, 0, none⟩) 0 0) 0 [])
    (a : Option Addr) (m c : Nat) (hx : f.eval x = .slice a m c) (news : List Value) (hl : news.length = m * size) (h0 : 0 < m → ∃ ad, a = some ad ∧ ∀ j u, news[j]? = some u → w.cell? (ad.add j) = some u) (h1 : ∀ u ∈ news, u.oneCell' = true)
    (h63 : m ≤ maxLen) (hbytes : m * bytes ≤ 140737488355328) (hbase : base ≤ w.heap.size)
    (h : ∀ a' c' w', w'.ownsRow base e size (.slice a' m c') m news → w.grownBy w' (some g) → wpList P ops Q rest (f.put o.dst (.slice a' m c')) w') : wpList P ops Q (o :: rest) f w :=
  wpList_plain hgd fun _ hK => wp_copy w s x t ho e i z size bytes ht hi hz hsize hby hzs hsz base g hs hown a m c hx news hl h0 h1 h63 hbytes hbase fun a' c' w' h2 h3 => hK _ _ (h a' c' w' h2 h3)
theorem step_copy {ops : Array Oper} {o : Oper} {f : Act} {K : Act → World → Prop} {Q : Exit → Act → World → Prop} {E : Prop} (hgd : o.guard = none) (s x : Operand) (t : TypeId)
    (ho : o.op = .call { callee := .builtin .append, args := #[s, x], argTypes := #[t, t] }) (e : TypeId) (i : TypeInfo) (z : Value) (size bytes : Nat) (ht : P.underlying t = some (.slice e)) (hi : P.info? e = some i) (hz : i.zero = some z)
    (hsize : i.size = size) (hby : i.bytes = bytes) (hzs : z.cells.size = size) (hsz : 0 < size) (base g : Nat) (hs : f.eval s = .slice (some ⟨g, 0, none⟩) 0 0) (hown : w.ownsRow base e size (.slice (some ⟨g, 0, none⟩) 0 0) 0 [])
    (a : Option Addr) (m c : Nat) (hx : f.eval x = .slice a m c) (news : List Value) (hl : news.length = m * size) (h0 : 0 < m → ∃ ad, a = some ad ∧ ∀ j u, news[j]? = some u → w.cell? (ad.add j) = some u) (h1 : ∀ u ∈ news, u.oneCell' = true)
    (h63 : m ≤ maxLen) (hbytes : m * bytes ≤ 140737488355328) (hbase : base ≤ w.heap.size)
    (h : ∀ a' c' w', w'.ownsRow base e size (.slice a' m c') m news → w.grownBy w' (some g) → w.ownsRow base e size (.slice (some ⟨g, 0, none⟩) 0 0) 0 [] → K (f.put o.dst (.slice a' m c')) w') :
    if Region.wanted o (yielded ops f.tmps) = true then Oper.wp P o f w K Q else E := by
  have hw : Region.wanted o (yielded ops f.tmps) = true := by simp [Region.wanted, hgd]
  rw [if_pos hw]
  exact wp_copy w s x t ho e i z size bytes ht hi hz hsize hby hzs hsz base g hs hown a m c hx news hl h0 h1 h63 hbytes hbase fun a' c' w' h2 h3 => h a' c' w' h2 h3 hown
end
theorem src_ints {w : World} {a : Option Addr} {n cap : Nat} {l : List Int} (h : IRow w (.slice a n cap) l) : n = l.length ∧ (0 < n → ∃ ad, a = some ad ∧ ∀ j u, (ci l)[j]? = some u → w.cell? (ad.add j) = some u) := by
  obtain ⟨a', cap', e, hl, hc⟩ := h
  simp only [Value.slice.injEq] at e
  obtain ⟨rfl, rfl, rfl⟩ := e
  refine ⟨rfl, fun h0 => ?_⟩
  obtain ⟨b, off, rfl, hb, hcc⟩ := hc h0
  refine ⟨_, rfl, fun j u hu => ?_⟩
  rw [A6.add0]
  simp only [ci, List.getElem?_map, Option.map_eq_some_iff] at hu
  obtain ⟨s, hs, rfl⟩ := hu
  exact hcc j s hs
theorem src_strs {w : World} {a : Option Addr} {n cap : Nat} {l : List ByteArray} (h : SRow w (.slice a n cap) l) : n = l.length ∧ (0 < n → ∃ ad, a = some ad ∧ ∀ j u, (l.map Value.string)[j]? = some u → w.cell? (ad.add j) = some u) := by
  obtain ⟨a', cap', e, hl, hc⟩ := h
  simp only [Value.slice.injEq] at e
  obtain ⟨rfl, rfl, rfl⟩ := e
  refine ⟨rfl, fun h0 => ?_⟩
  obtain ⟨b, off, rfl, hb, hcc⟩ := hc h0
  refine ⟨_, rfl, fun j u hu => ?_⟩
  rw [A6.add0]
  simp only [List.getElem?_map, Option.map_eq_some_iff] at hu
  obtain ⟨s, hs, rfl⟩ := hu
  exact hcc j s hs
theorem one_ci (l : List Int) : ∀ u ∈ ci l, u.oneCell' = true := by
  intro u hu
  simp only [ci, List.mem_map] at hu
  obtain ⟨s, _, rfl⟩ := hu; rfl
theorem one_cs (l : List ByteArray) : ∀ u ∈ l.map Value.string, u.oneCell' = true := by
  intro u hu
  simp only [List.mem_map] at hu
  obtain ⟨s, _, rfl⟩ := hu; rfl
theorem lit_i (base : Nat) (w : World) (hb : base ≤ w.heap.size) : (w.alloc (.cells #[] 2)).ownsRow base 2 1 (.slice (some ⟨w.heap.size, 0, none⟩) 0 0) 0 [] := World.ownsRow_lit w #[] 0 hb (by decide) rfl
theorem lit_s (base : Nat) (w : World) (hb : base ≤ w.heap.size) : (w.alloc (.cells #[] 9)).ownsRow base 9 1 (.slice (some ⟨w.heap.size, 0, none⟩) 0 0) 0 [] := World.ownsRow_lit w #[] 0 hb (by decide) rfl
theorem cs_length (l : List ByteArray) : (l.map Value.string).length = l.length * 1 := by simp
set_option maxRecDepth 100000 in
set_option maxHeartbeats 800000 in
theorem cloneI_any (v : Value) (l : List Int) (w : World) (hv : IRow w v l) (hz : l.length ≤ 1048576) :
    Calls Tryd.prog 95 #[v] w fun e w' => ∃ a cap, e = .returned (.slice a l.length cap) ∧ OIRow w.heap.size w' (.slice a l.length cap) l ∧ Below w.heap.size w w' := by
  obtain ⟨i0, hi, hz0, hz1, hz2⟩ := info_parts info_i64
  have hv' := hv
  obtain ⟨a, cap, rfl, hl, hc⟩ := hv'
  cases a with
  | none =>
    have h0 : l.length = 0 := by
      rcases Nat.eq_zero_or_pos l.length with h | h
      · exact h
      · obtain ⟨_, _, e, _⟩ := hc h; cases e
    obtain rfl : l = [] := List.length_eq_zero_iff.1 h0
    clear hc hl hv
    have he : ∀ w : World, (binOp .eql 27 (.slice none 0 cap) (.slice none 0 0)).run Tryd.prog w = .ok (.bool true) w := fun _ => rfl
    go_enter Tryd.func95, Tryd.ntmps95
    go_wp2
    go_ret
    exact ⟨none, 0, rfl, World.ownsRow_nil _ _ _ _, Below.refl _ _⟩
  | some ad =>
    have hal : Below w.heap.size w (w.alloc (.cells #[] 2)) := (Below.refl _ _).alloc (Nat.le_refl _) _
    obtain ⟨-, hsrc⟩ := src_ints (hv.below hal)
    clear hc hl
    have he : ∀ w : World, (binOp .eql 27 (.slice (some ad) l.length cap) (.slice none 0 0)).run Tryd.prog w = .ok (.bool false) w := fun _ => rfl
    go_enter Tryd.func95, Tryd.ntmps95
    go_wp2_with (first
      | (at_builtin; refine wpList_copy _ rfl _ _ 27 rfl 2 i0 (.int .i64 0) 1 8 Tryd.underlying27 hi hz0 hz1 hz2 rfl (by decide) w.heap.size w.heap.size rfl (lit_i _ w (Nat.le_refl _)) _ _ _ rfl (ci l) (ci_length l) hsrc (one_ci l) (by unfold maxLen; omega) (by omega) (by simp) ?_; intro a' c' w1 hown hg))
    go_ret
    exact ⟨a', c', rfl, hown, hal.grown hg (by simp) (fun k h => by cases h; exact Nat.le_refl _)⟩
set_option maxRecDepth 100000 in
set_option maxHeartbeats 1600000 in
theorem copyLine_any (x : Ln) (vc : Value) (w : World) (hv : IRow w vc x.cards) (hz : x.cards.length ≤ 1048576) :
    Calls Tryd.prog 81 #[lnV x vc] w fun e w' => ∃ vd, e = .returned (lnV x vd) ∧ OIRow w.heap.size w' vd x.cards ∧ Below w.heap.size w w' := by
  obtain ⟨i0, hi, hz0, hz1, hz2⟩ := info_parts info_i64
  obtain ⟨kind, name, sum, cs⟩ := x
  unfold lnV
  dsimp only at hv hz ⊢
  have hv' := hv
  obtain ⟨a, cap, rfl, hl, hc⟩ := hv'
  clear hc hl
  have h1 := albel w (.cells #[.int .i64 kind, .string name, .string sum, .slice a cs.length cap] 29)
  have h2 := h1.alloc h1.size (.cells #[.int .i64 0, .string ⟨#[]⟩, .string ⟨#[]⟩, .slice none 0 0] 29)
  have h3 := h2.alloc h2.size (.cells #[] 2)
  obtain ⟨-, hsrc⟩ := src_ints (hv.below h3)
  have hs2 : ((w.alloc (.cells #[.int .i64 kind, .string name, .string sum, .slice a cs.length cap] 29)).alloc (.cells #[.int .i64 0, .string ⟨#[]⟩, .string ⟨#[]⟩, .slice none 0 0] 29)).heap.size = w.heap.size + 1 + 1 := by simp
  have hlit := lit_i (w.heap.size + 1 + 1) ((w.alloc (.cells #[.int .i64 kind, .string name, .string sum, .slice a cs.length cap] 29)).alloc (.cells #[.int .i64 0, .string ⟨#[]⟩, .string ⟨#[]⟩, .slice none 0 0] 29)) (by rw [hs2]; exact Nat.le_refl _)
  rw [hs2] at hlit
  have KX3 : Hid ((((w.alloc (.cells #[.int .i64 kind, .string name, .string sum, .slice a cs.length cap] 29)).alloc (.cells #[.int .i64 0, .string ⟨#[]⟩, .string ⟨#[]⟩, .slice none 0 0] 29)).alloc (.cells #[] 2)).heap[w.heap.size]? = some (.cells #[.int .i64 kind, .string name, .string sum, .slice a cs.length cap] 29 (0, 0))) := carryA (carryA (heap_alloc_new w _) _) _
  have KR3 : Hid ((((w.alloc (.cells #[.int .i64 kind, .string name, .string sum, .slice a cs.length cap] 29)).alloc (.cells #[.int .i64 0, .string ⟨#[]⟩, .string ⟨#[]⟩, .slice none 0 0] 29)).alloc (.cells #[] 2)).heap[w.heap.size + 1]? = some (.cells #[.int .i64 0, .string ⟨#[]⟩, .string ⟨#[]⟩, .slice none 0 0] 29 (0, 0))) := by
    have q := heap_alloc_new (w.alloc (.cells #[.int .i64 kind, .string name, .string sum, .slice a cs.length cap] 29)) (.cells #[.int .i64 0, .string ⟨#[]⟩, .string ⟨#[]⟩, .slice none 0 0] 29)
    rw [asz] at q
    exact carryA q _
  go_enter Tryd.func81, Tryd.ntmps81
  go_wp2_with (first
    | (at_builtin; go_loud (refine wpList_copy _ rfl _ _ 27 rfl 2 i0 (.int .i64 0) 1 8 Tryd.underlying27 hi hz0 hz1 hz2 rfl (by decide) (w.heap.size + 1 + 1) (w.heap.size + 1 + 1) rfl hlit _ _ _ rfl (ci cs) (ci_length cs) hsrc (one_ci cs) (by unfold maxLen; omega) (by omega) (by simp) ?_); intro a' c' w1 hown hg; have kx := (hg.block w.heap.size (by simp; omega) (by simp; omega)).trans KX3.out; have kr := (hg.block (w.heap.size + 1) (by simp) (by simp)).trans KR3.out; obtain ⟨x0, x1, x2, x3, xf⟩ := blk4f kx; obtain ⟨r0, r1, r2, r3, rf⟩ := blk4f kr; have HB1 : Hid (Below w.heap.size w w1) := h3.grown hg (by simp; omega) (fun k h => by cases h; omega); have HO : Hid _ := hown; clear hown hg kx kr))
  refine bodyPost_ret (v := .agg #[.int .i64 kind, .string name, .string sum, .slice a' cs.length c']) (by simp [results, Tryd.results81, go_sem, r0, r1, r2, r3]) rfl ⟨_, rfl, ?_, ?_⟩
  · have ho : OIRow (w.heap.size + 1 + 1) w1 (.slice a' cs.length c') cs := HO.out
    exact own_mono (own_set (own_set (own_set (own_set (own_set ho (by omega)) (by omega)) (by omega)) (by omega)) (by omega)) (by omega)
  · exact (((((HB1.out.setCell (by show w.heap.size ≤ w.heap.size; omega) _).setCell (by show w.heap.size ≤ w.heap.size + 1; omega) _).setCell (by show w.heap.size ≤ w.heap.size + 1; omega) _).setCell (by show w.heap.size ≤ w.heap.size + 1; omega) _).setCell (by show w.heap.size ≤ w.heap.size + 1; omega) _)
end Go.Proofs.YtkpjdmmgdmbmnaaDoor.IC
