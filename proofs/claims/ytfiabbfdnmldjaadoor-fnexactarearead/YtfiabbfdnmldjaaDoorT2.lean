/-
  A row that is copied: append of all of it onto a row of the call's own that holds nothing. Both ways of copying a disk.
-/
import Derived.Test.YtfiabbfdnmldjaaDoorS3
import Derived.Test.YtfiabbfdnmldjaaDoorO1
import Derived.Deep.AppendSrc
import Derived.Maps.AppendAt
import Derived.Deep.AppendLies
import Derived.Deep.RegionHeld3
namespace Go.Proofs.YtfiabbfdnmldjaaDoor.T2
open Go.RowKit
open Go.Proofs.YtfiabbfdnmldjaaDoor.C0 Go.Proofs.YtfiabbfdnmldjaaDoor.S0 Go.Proofs.YtfiabbfdnmldjaaDoor.S1 Go.Proofs.YtfiabbfdnmldjaaDoor.S2 Go.Proofs.YtfiabbfdnmldjaaDoor.S3 Go.Proofs.YtfiabbfdnmldjaaDoor.O1

section
variable {P : Program} (w : World)
theorem run_copy (t ty e : TypeId) (i : TypeInfo) (z : Value) (size bytes : Nat) (ht : P.underlying t = some (.slice e)) (hi : P.info? e = some i) (hz : i.zero = some z)
    (hsize : i.size = size) (hby : i.bytes = bytes) (hzs : z.cells.size = size) (hsz : 0 < size) (base g : Nat) (hown : w.ownsRow base e size (.slice (some ⟨g, 0, none⟩) 0 0) 0 [])
    (a : Option Addr) (m c : Nat) (news : List Value) (hl : news.length = m * size) (h0 : 0 < m → ∃ ad, a = some ad ∧ ∀ j u, news[j]? = some u → w.cell? (ad.add j) = some u) (h1 : ∀ u ∈ news, u.oneCell' = true)
    (h63 : m ≤ maxLen) (hbytes : m * bytes ≤ 140737488355328) (hbase : base ≤ w.heap.size) :
    ∃ a' c' w', (Builtin.append_ #[t, t] ty #[.slice (some ⟨g, 0, none⟩) 0 0, .slice a m c]).run P w = .ok (.slice a' m c') w' ∧ w'.ownsRow base e size (.slice a' m c') m news ∧ w.grownBy w' (some g) := by
  rcases Nat.eq_zero_or_pos m with hm | hm
  · subst hm
    obtain rfl : news = [] := List.length_eq_zero_iff.1 (by omega)
    have hs : Src P i.size t (.slice a 0 c) 0 [] w := by
      cases a with
      | none => exact Src.ofNil w ht c
      | some ad => exact Src.ofSlice w ht ad 0 c [] (by simp) (fun j u h => by simp at h) (fun u h => by cases h)
    have hr := run_append_room_src (P := P) w t t ty e i ht hi g 0 0 0 _ 0 [] hs (by omega) (fun j h => by simp at h) (fun j h => by simp at h)
    exact ⟨some ⟨g, 0, none⟩, 0, w, hr, hown, ⟨rfl, rfl, rfl, Nat.le_refl _, fun _ _ _ => rfl⟩⟩
  · obtain ⟨ad, rfl, hc⟩ := h0 hm
    obtain ⟨v', w', hr, h2, h3, _, _⟩ := run_append_own_at (P := P) w base t ty e i z size bytes ht hi hz hsize hby hzs hsz _ 0 [] hown ad m c news hl hc h1 (by omega) (by simpa using hbytes) hbase
    simp only [Nat.zero_add, List.nil_append] at h2
    obtain ⟨g', cap', rfl, _⟩ := h2.form hm
    exact ⟨_, _, w', hr, h2, h3⟩
theorem wp_copy {o : Oper} {f : Act} {K : Act → World → Prop} {Q : Exit → Act → World → Prop} (s x : Operand) (t : TypeId)
    (ho : o.op = .call { callee := .builtin .append, args := #[s, x], argTypes := #[t, t] }) (e : TypeId) (i : TypeInfo) (z : Value) (size bytes : Nat) (ht : P.underlying t = some (.slice e)) (hi : P.info? e = some i) (hz : i.zero = some z)
    (hsize : i.size = size) (hby : i.bytes = bytes) (hzs : z.cells.size = size) (hsz : 0 < size) (base g : Nat) (hs : f.eval s = .slice (some ⟨g, 0, none⟩) 0 0) (hown : w.ownsRow base e size (.slice (some ⟨g, 0, none⟩) 0 0) 0 [])
    (a : Option Addr) (m c : Nat) (hx : f.eval x = .slice a m c) (news : List Value) (hl : news.length = m * size) (h0 : 0 < m → ∃ ad, a = some ad ∧ ∀ j u, news[j]? = some u → w.cell? (ad.add j) = some u) (h1 : ∀ u ∈ news, u.oneCell' = true)
    (h63 : m ≤ maxLen) (hbytes : m * bytes ≤ 140737488355328) (hbase : base ≤ w.heap.size)
    (h : ∀ a' c' w', w'.ownsRow base e size (.slice a' m c') m news → w.grownBy w' (some g) → K (f.put o.dst (.slice a' m c')) w') : o.wp P f w K Q := by
  obtain ⟨a', c', w', hr, h2, h3⟩ := run_copy (P := P) w t o.type e i z size bytes ht hi hz hsize hby hzs hsz base g hown a m c news hl h0 h1 h63 hbytes hbase
  unfold Oper.wp execOp
  simp only [ho, resolve, invoke, builtin, Sem.run_bind, Sem.run_pure, Result.andThen_ok, List.map_toArray, List.map_cons, List.map_nil, hs, hx, hr]
  exact h a' c' w' h2 h3
theorem wpList_copy {ops : Array Oper} {rest : List Oper} {o : Oper} {f : Act} {Q : Exit → Act → World → Prop} (hgd : o.guard = none) (s x : Operand) (t : TypeId)
    (ho : o.op = .call { callee := .builtin .append, args := #[s, x], argTypes := #[t, t] }) (e : TypeId) (i : TypeInfo) (z : Value) (size bytes : Nat) (ht : P.underlying t = some (.slice e)) (hi : P.info? e = some i) (hz : i.zero = some z)
    (hsize : i.size = size) (hby : i.bytes = bytes) (hzs : z.cells.size = size) (hsz : 0 < size) (base g : Nat) (hs : f.eval s = .slice (some ⟨g, 0, none⟩) 0 0) (hown : w.ownsRow base e size (.slice (some ⟨g, 0, none⟩) 0 0) 0 [])
    (a : Option Addr) (m c : Nat) (hx : f.eval x = .slice a m c) (news : List Value) (hl : news.length = m * size) (h0 : 0 < m → ∃ ad, a = some ad ∧ ∀ j u, news[j]? = some u → w.cell? (ad.add j) = some u) (h1 : ∀ u ∈ news, u.oneCell' = true)
    (h63 : m ≤ maxLen) (hbytes : m * bytes ≤ 140737488355328) (hbase : base ≤ w.heap.size)
    (h : ∀ a' c' w', w'.ownsRow base e size (.slice a' m c') m news → w.grownBy w' (some g) → wpList P ops Q rest (f.put o.dst (.slice a' m c')) w') : wpList P ops Q (o :: rest) f w :=
  wpList_plain hgd fun _ hK => wp_copy w s x t ho e i z size bytes ht hi hz hsize hby hzs hsz base g hs hown a m c hx news hl h0 h1 h63 hbytes hbase fun a' c' w' h2 h3 => hK _ _ (h a' c' w' h2 h3)
theorem step_copy {ops : Array Oper} {o : Oper} {f : Act} {K : Act → World → Prop} {Q : Exit → Act → World → Prop} {E : Prop} (hgd : o.guard = none) (s x : Operand) (t : TypeId)
    (ho : o.op = .call { callee := .builtin .append, args := #[s, x], argTypes := #[t, t] }) (e : TypeId) (i : TypeInfo) (z : Value) (size bytes : Nat) (ht : P.underlying t = some (.slice e)) (hi : P.info? e = some i) (hz : i.zero = some z)
    (hsize : i.size = size) (hby : i.bytes = bytes) (hzs : z.cells.size = size) (hsz : 0 < size) (base g : Nat) (hs : f.eval s = .slice (some ⟨g, 0, none⟩) 0 0) (hown : w.ownsRow base e size (.slice (some ⟨g, 0, none⟩) 0 0) 0 [])
    (a : Option Addr) (m c : Nat) (hx : f.eval x = .slice a m c) (news : List Value) (hl : news.length = m * size) (h0 : 0 < m → ∃ ad, a = some ad ∧ ∀ j u, news[j]? = some u → w.cell? (ad.add j) = some u) (h1 : ∀ u ∈ news, u.oneCell' = true)
    (h63 : m ≤ maxLen) (hbytes : m * bytes ≤ 140737488355328) (hbase : base ≤ w.heap.size)
    (h : ∀ a' c' w', w'.ownsRow base e size (.slice a' m c') m news → w.grownBy w' (some g) → w.ownsRow base e size (.slice (some ⟨g, 0, none⟩) 0 0) 0 [] → K (f.put o.dst (.slice a' m c')) w') :
    if Region.wanted o (yielded ops f.tmps) = true then Oper.wp P o f w K Q else E := by
  have hw : Region.wanted o (yielded ops f.tmps) = true := by simp [Region.wanted, hgd]
  rw [if_pos hw]
  exact wp_copy w s x t ho e i z size bytes ht hi hz hsize hby hzs hsz base g hs hown a m c hx news hl h0 h1 h63 hbytes hbase fun a' c' w' h2 h3 => h a' c' w' h2 h3 hown
end
theorem drewS {w : World} {v : Value} {l : List ByteArray} (h : Strs w v l) : Strs w.drew v l := h
theorem drewP {w : World} {v : Value} {l : List Pend} (h : Pends w v l) : Pends w.drew v l := h
theorem src_strs {w : World} {a : Option Addr} {n cap : Nat} {l : List ByteArray} (h : Strs w (.slice a n cap) l) : n = l.length ∧ (0 < n → ∃ ad, a = some ad ∧ ∀ j u, (cs l)[j]? = some u → w.cell? (ad.add j) = some u) := by
  obtain ⟨a', cap', e, hl, hc⟩ := h
  simp only [Value.slice.injEq] at e
  obtain ⟨rfl, rfl, rfl⟩ := e
  refine ⟨rfl, fun h0 => ?_⟩
  obtain ⟨b, off, rfl, hb, hcc⟩ := hc h0
  refine ⟨_, rfl, fun j u hu => ?_⟩
  rw [add0]
  simp only [cs, List.getElem?_map, Option.map_eq_some_iff] at hu
  obtain ⟨s, hs, rfl⟩ := hu
  exact hcc j s hs
theorem src_pends {w : World} {a : Option Addr} {n cap : Nat} {l : List Pend} (h : Pends w (.slice a n cap) l) : n = l.length ∧ (0 < n → ∃ ad, a = some ad ∧ ∀ j u, (cp l)[j]? = some u → w.cell? (ad.add j) = some u) := by
  obtain ⟨a', cap', e, hl, hc⟩ := h
  simp only [Value.slice.injEq] at e
  obtain ⟨rfl, rfl, rfl⟩ := e
  refine ⟨rfl, fun h0 => ?_⟩
  obtain ⟨b, off, rfl, hb, hcc⟩ := hc h0
  refine ⟨_, rfl, fun j u hu => ?_⟩
  rw [add0]
  have hj := (List.getElem?_eq_some_iff.1 hu).1
  rw [cp_length] at hj
  obtain ⟨s, hs⟩ : ∃ s, l[j / 2]? = some s := ⟨_, List.getElem?_eq_getElem (by omega)⟩
  have h2 := cp_at l _ s hs
  have h3 := hcc _ s hs
  rcases Nat.mod_two_eq_zero_or_one j with q | q
  · have e : j / 2 * 2 = j := by omega
    rw [e] at h2 h3
    rw [h2.1] at hu; cases hu; exact h3.1
  · have e : j / 2 * 2 + 1 = j := by omega
    rw [e] at h2
    rw [h2.2] at hu; cases hu
    rw [show off + j = off + j / 2 * 2 + 1 by omega]; exact h3.2
theorem one_cs (l : List ByteArray) : ∀ u ∈ cs l, u.oneCell' = true := by
  intro u hu
  simp only [cs, List.mem_map] at hu
  obtain ⟨s, _, rfl⟩ := hu; rfl
theorem one_cp (l : List Pend) : ∀ u ∈ cp l, u.oneCell' = true := by
  intro u hu
  simp only [cp, List.mem_flatMap, List.mem_cons, List.not_mem_nil, or_false] at hu
  obtain ⟨s, _, rfl | rfl⟩ := hu <;> rfl
theorem lit_s (base : Nat) (w : World) (hb : base ≤ w.heap.size) : (w.alloc (.cells #[] 9)).ownsRow base 9 1 (.slice (some ⟨w.heap.size, 0, none⟩) 0 0) 0 [] := World.ownsRow_lit w #[] 0 hb (by decide) rfl
theorem lit_p (base : Nat) (w : World) (hb : base ≤ w.heap.size) : (w.alloc (.cells #[] 73)).ownsRow base 73 2 (.slice (some ⟨w.heap.size, 0, none⟩) 0 0) 0 [] := World.ownsRow_lit w #[] 0 hb (by decide) rfl

set_option maxRecDepth 100000 in
set_option maxHeartbeats 800000 in
theorem cloneS_any (v : Value) (l : List ByteArray) (w : World) (hv : Strs w v l) (hz : l.length ≤ 1048576) :
    Calls Tryd.prog 64 #[v] w fun e w' => ∃ a cap, e = .returned (.slice a l.length cap) ∧ OStrs w.heap.size w' (.slice a l.length cap) l ∧ Below w.heap.size w w' := by
  obtain ⟨i0, hi, hz0, hz1, hz2⟩ := info_parts info_str
  have hv' := hv
  obtain ⟨a, cap, rfl, hl, hc⟩ := hv'
  cases a with
  | none =>
    have h0 : l.length = 0 := by
      rcases Nat.eq_zero_or_pos l.length with h | h
      · exact h
      · obtain ⟨_, _, e, _⟩ := hc h; cases e
    obtain rfl : l = [] := List.length_eq_zero_iff.1 h0
    clear hc hl hv
    have he : ∀ w : World, (binOp .eql 22 (.slice none 0 cap) (.slice none 0 0)).run Tryd.prog w = .ok (.bool true) w := fun _ => rfl
    go_enter Tryd.func64, Tryd.ntmps64
    go_wp2
    go_ret
    exact ⟨none, 0, rfl, World.ownsRow_nil _ _ _ _, Below.refl _ _⟩
  | some ad =>
    have hal : Below w.heap.size w (w.alloc (.cells #[] 9)) := (Below.refl _ _).alloc (Nat.le_refl _) _
    obtain ⟨-, hsrc⟩ := src_strs (hv.below hal)
    clear hc hl
    have he : ∀ w : World, (binOp .eql 22 (.slice (some ad) l.length cap) (.slice none 0 0)).run Tryd.prog w = .ok (.bool false) w := fun _ => rfl
    go_enter Tryd.func64, Tryd.ntmps64
    go_wp2_with (first
      | (at_builtin; refine wpList_copy _ rfl _ _ 22 rfl 9 i0 (.string ⟨#[]⟩) 1 16 Tryd.underlying22 hi hz0 hz1 hz2 rfl (by decide) w.heap.size w.heap.size rfl (lit_s _ w (Nat.le_refl _)) _ _ _ rfl (cs l) (cs_length l) hsrc (one_cs l) (by unfold maxLen; omega) (by omega) (by simp) ?_; intro a' c' w1 hown hg))
    go_ret
    exact ⟨a', c', rfl, hown, hal.grown hg (by simp) (fun k h => by cases h; exact Nat.le_refl _)⟩
set_option maxRecDepth 100000 in
set_option maxHeartbeats 800000 in
theorem cloneP_any (v : Value) (l : List Pend) (w : World) (hv : Pends w v l) (hz : l.length ≤ 1048576) :
    Calls Tryd.prog 65 #[v] w fun e w' => ∃ a cap, e = .returned (.slice a l.length cap) ∧ OPends w.heap.size w' (.slice a l.length cap) l ∧ Below w.heap.size w w' := by
  obtain ⟨i0, hi, hz0, hz1, hz2⟩ := info_parts info_pend
  have hv' := hv
  obtain ⟨a, cap, rfl, hl, hc⟩ := hv'
  cases a with
  | none =>
    have h0 : l.length = 0 := by
      rcases Nat.eq_zero_or_pos l.length with h | h
      · exact h
      · obtain ⟨_, _, e, _⟩ := hc h; cases e
    obtain rfl : l = [] := List.length_eq_zero_iff.1 h0
    clear hc hl hv
    have he : ∀ w : World, (binOp .eql 27 (.slice none 0 cap) (.slice none 0 0)).run Tryd.prog w = .ok (.bool true) w := fun _ => rfl
    go_enter Tryd.func65, Tryd.ntmps65
    go_wp2
    go_ret
    exact ⟨none, 0, rfl, World.ownsRow_nil _ _ _ _, Below.refl _ _⟩
  | some ad =>
    have hal : Below w.heap.size w (w.alloc (.cells #[] 73)) := (Below.refl _ _).alloc (Nat.le_refl _) _
    obtain ⟨-, hsrc⟩ := src_pends (hv.below hal)
    clear hc hl
    have he : ∀ w : World, (binOp .eql 27 (.slice (some ad) l.length cap) (.slice none 0 0)).run Tryd.prog w = .ok (.bool false) w := fun _ => rfl
    go_enter Tryd.func65, Tryd.ntmps65
    go_wp2_with (first
      | (at_builtin; refine wpList_copy _ rfl _ _ 27 rfl 73 i0 (.agg #[.int .i64 0, .string ⟨#[]⟩]) 2 24 Tryd.underlying27 hi hz0 hz1 hz2 rfl (by decide) w.heap.size w.heap.size rfl (lit_p _ w (Nat.le_refl _)) _ _ _ rfl (cp l) (cp_length l) hsrc (one_cp l) (by unfold maxLen; omega) (by omega) (by simp) ?_; intro a' c' w1 hown hg))
    go_ret
    exact ⟨a', c', rfl, hown, hal.grown hg (by simp) (fun k h => by cases h; exact Nat.le_refl _)⟩

/-- What is told of a disk whose two rows are laid into the block behind the box. -/
abbrev DTold (w : World) (ss : List ByteArray) (ps : List Pend) (e : Ending) (w' : World) : Prop :=
  ∃ a c a' c', e = .returned (.agg #[.slice a ss.length c, .slice a' ps.length c']) ∧ ODisk w.heap.size w' (.slice a ss.length c) (.slice a' ps.length c') ss ps ∧ Below w.heap.size w w'
theorem fin_disk {w W X : World} {a a' : Option Addr} {c c' : Nat} {ss : List ByteArray} {ps : List Pend} (b0 : Below w.heap.size w W) (e2 : W.heap.size = w.heap.size + 2) (B : Below W.heap.size W X) (ho : ODisk W.heap.size X (.slice a ss.length c) (.slice a' ps.length c') ss ps) (u u' : Value) :
    DTold w ss ps (.returned (.agg #[.slice a ss.length c, .slice a' ps.length c'])) ((X.setCell ⟨w.heap.size + 1, 0, none⟩ u).setCell ⟨w.heap.size + 1, 1, none⟩ u') := by
  refine ⟨a, c, a', c', rfl, ⟨?_, ?_⟩, ?_⟩
  · exact ((ho.1.set (p := ⟨w.heap.size + 1, 0, none⟩) (by show w.heap.size + 1 < _; omega) u).set (p := ⟨w.heap.size + 1, 1, none⟩) (by show w.heap.size + 1 < _; omega) u').mono (by omega)
  · exact ((ho.2.set (p := ⟨w.heap.size + 1, 0, none⟩) (by show w.heap.size + 1 < _; omega) u).set (p := ⟨w.heap.size + 1, 1, none⟩) (by show w.heap.size + 1 < _; omega) u').mono (by omega)
  · exact ((b0.trans (B.mono b0.size)).setCell (p := ⟨w.heap.size + 1, 0, none⟩) (by show w.heap.size ≤ w.heap.size + 1; omega) u).setCell (p := ⟨w.heap.size + 1, 1, none⟩) (by show w.heap.size ≤ w.heap.size + 1; omega) u'
set_option maxRecDepth 100000 in
set_option maxHeartbeats 1600000 in
theorem copied_any (vs vp : Value) (ss : List ByteArray) (ps : List Pend) (w : World) (hs : Strs w vs ss) (hp : Pends w vp ps) (hz : ss.length ≤ 1048576) (hzp : ps.length ≤ 1048576) :
    Calls Tryd.prog 38 #[.agg #[vs, vp]] w fun e w' => ∃ a c a' c', e = .returned (.agg #[.slice a ss.length c, .slice a' ps.length c']) ∧ ODisk w.heap.size w' (.slice a ss.length c) (.slice a' ps.length c') ss ps ∧ Below w.heap.size w w' := by
  have b0 : Below w.heap.size w ((w.alloc (.cells #[vs, vp] 29)).alloc (.cells #[.slice none 0 0, .slice none 0 0] 29)) := ((Below.refl _ _).alloc (Nat.le_refl _) _).alloc (by simp) _
  have e2 : ((w.alloc (.cells #[vs, vp] 29)).alloc (.cells #[.slice none 0 0, .slice none 0 0] 29)).heap.size = w.heap.size + 2 := by simp
  go_enter Tryd.func38, Tryd.ntmps38
  go_wp2_with fail
  obtain ⟨W, hW⟩ : ∃ W, (w.alloc (.cells #[vs, vp] 29)).alloc (.cells #[.slice none 0 0, .slice none 0 0] 29) = W := ⟨_, rfl⟩
  have k0 : W.heap[w.heap.size]? = some (.cells #[vs, vp] 29) := by rw [← hW]; exact carryA (heap_alloc_new w _) _
  have k1 : W.heap[w.heap.size + 1]? = some (.cells #[.slice none 0 0, .slice none 0 0] 29) := by rw [← hW]; have := heap_alloc_new (w.alloc (.cells #[vs, vp] 29)) (.cells #[.slice none 0 0, .slice none 0 0] 29); simpa using this
  rw [hW] at b0 e2 ⊢
  clear hW
  have hs1 := hs.below b0
  have hp1 := hp.below b0
  obtain ⟨q0, q1, -, -⟩ := blk2 k0
  obtain ⟨r0, r1, rf, -⟩ := blk2 k1
  go_region_with (first
    | (go_at_call 64; first
      | (refine (cloneS_any vs ss _ (drewS hs1) hz).mono ?_; rintro e wS ⟨a, c, rfl, hoS, hbS'⟩; have hbS := undrew hbS'; have kS := carry k0 hbS; have kS1 := carry k1 hbS; obtain ⟨s0, s1, -, -⟩ := blk2 kS; obtain ⟨s2, s3, sf, -⟩ := blk2 kS1; have BS : Below W.heap.size W wS := hbS)
      | (refine (cloneS_any vs ss _ (hs1.below BP) hz).mono ?_; rintro e wS ⟨a, c, rfl, hoS, hbS⟩; have kS := carry kP hbS; have kS1 := carry kP1 hbS; obtain ⟨s0, s1, -, -⟩ := blk2 kS; obtain ⟨s2, s3, sf, -⟩ := blk2 kS1; have BS := BP.trans (hbS.mono BP.size)))
    | (go_at_call 65; first
      | (refine (cloneP_any vp ps _ (drewP hp1) hzp).mono ?_; rintro e wP ⟨a', c', rfl, hoP, hbP'⟩; have hbP := undrew hbP'; have kP := carry k0 hbP; have kP1 := carry k1 hbP; obtain ⟨t0, t1, -, -⟩ := blk2 kP; obtain ⟨t2, t3, tf, -⟩ := blk2 kP1; have BP : Below W.heap.size W wP := hbP)
      | (refine (cloneP_any vp ps _ (hp1.below BS) hzp).mono ?_; rintro e wP ⟨a', c', rfl, hoP, hbP⟩; have kP := carry kS hbP; have kP1 := carry kS1 hbP; obtain ⟨t0, t1, -, -⟩ := blk2 kP; obtain ⟨t2, t3, tf, -⟩ := blk2 kP1; have BP := BS.trans (hbP.mono BS.size))))
  all_goals
    first
      | (have HF : Hid (∀ u u', DTold w ss ps (.returned (.agg #[.slice a ss.length c, .slice a' ps.length c'])) ((wP.setCell ⟨w.heap.size + 1, 0, none⟩ u).setCell ⟨w.heap.size + 1, 1, none⟩ u')) := fin_disk b0 e2 BP ⟨OStrs.below (B := W.heap.size) hoS hbP, hoP.mono BS.size⟩
         go_wp2
         exact bodyPost_ret (v := .agg #[.slice a ss.length c, .slice a' ps.length c']) (by simp [results, Tryd.results38, go_sem, t2, t3]) rfl (HF.out _ _))
      | (have HF : Hid (∀ u u', DTold w ss ps (.returned (.agg #[.slice a ss.length c, .slice a' ps.length c'])) ((wS.setCell ⟨w.heap.size + 1, 0, none⟩ u).setCell ⟨w.heap.size + 1, 1, none⟩ u')) := fin_disk b0 e2 BS ⟨hoS.mono BP.size, OPends.below (B := W.heap.size) hoP hbS⟩
         go_wp2
         exact bodyPost_ret (v := .agg #[.slice a ss.length c, .slice a' ps.length c']) (by simp [results, Tryd.results38, go_sem, s2, s3]) rfl (HF.out _ _))
end Go.Proofs.YtfiabbfdnmldjaaDoor.T2
