/-
  T2 T3 T4 T5: parts of the proof, one behind the other.
-/
import Derived.Test.YtfiabbfdnmldjaaGreatDoorPB
import Derived.Test.YtfiabbfdnmldjaaGreatDoorPC
import Derived.Deep.AppendSrc
import Derived.Maps.AppendAt
import Derived.Deep.AppendLies
import Derived.Deep.RegionHeld3
import Derived.Deep.RegionLaw
/-
  A row that is copied: append of all of it onto a row of the call's own that holds nothing. Both ways of copying a disk.
-/
namespace Go.Proofs.YtfiabbfdnmldjaaGreatDoor.T2
open Go.RowKit
open Go.Proofs.YtfiabbfdnmldjaaGreatDoor.C0 Go.Proofs.YtfiabbfdnmldjaaGreatDoor.S0 Go.Proofs.YtfiabbfdnmldjaaGreatDoor.S1 Go.Proofs.YtfiabbfdnmldjaaGreatDoor.S2 Go.Proofs.YtfiabbfdnmldjaaGreatDoor.S3 Go.Proofs.YtfiabbfdnmldjaaGreatDoor.O1

section
variable {P : Program} (w : World)
theorem run_copy (t ty e : TypeId) (i : TypeInfo) (z : Value) (size bytes : Nat) (ht : P.underlying t = some (.slice e)) (hi : P.info? e = some i) (hz : i.zero = some z)
    (hsize : i.size = size) (hby : i.bytes = bytes) (hzs : z.cells.size = size) (hsz : 0 < size) (base g : Nat) (hown : w.ownsRow base e size (.slice (some ⟨g, 0, none⟩) 0 0) 0 [])
    (a : Option Addr) (m c : Nat) (news : List Value) (hl : news.length = m * size) (h0 : 0 < m → ∃ ad, a = some ad ∧ ∀ j u, news[j]? = some u → w.cell? (ad.add j) = some u) (h1 : ∀ u ∈ news, u.oneCell' = true)
    (h63 : m ≤ maxLen) (hbytes : m * bytes ≤ 140737488355328) (hbase : base ≤ w.heap.size) :
    ∃ a' c' w', (Builtin.append_ #[t, t] ty #[.slice (some ⟨g, 0, none⟩) 0 0, .slice a m c]).run P w = .ok (.slice a' m c') w' ∧ w'.ownsRow base e size (.slice a' m c') m news ∧ w.grownBy w' (some g) := by
  rcases Nat.eq_zero_or_pos m with hm | hm
  · subst hm
    obtain rfl : news = [] := List.length_eq_zero_iff.1 (by omega)
    have hs : Src P i.size t (.slice a 0 c) 0 [] w := by
      cases a with
      | none => exact Src.ofNil w ht c
      | some ad => exact Src.ofSlice w ht ad 0 c [] (by simp) (fun j u h => by simp at h) (fun u h => by cases h)
    have hr := run_append_room_src (P := P) w t t ty e i ht hi g 0 0 0 _ 0 [] hs (by omega) (fun j h => by simp at h) (fun j h => by simp at h)
    exact ⟨some ⟨g, 0, none⟩, 0, w, hr, hown, ⟨rfl, rfl, rfl, Nat.le_refl _, fun _ _ _ => rfl⟩⟩
  · obtain ⟨ad, rfl, hc⟩ := h0 hm
    obtain ⟨v', w', hr, h2, h3, _, _⟩ := run_append_own_at (P := P) w base t ty e i z size bytes ht hi hz hsize hby hzs hsz _ 0 [] hown ad m c news hl hc h1 (by omega) (by simpa using hbytes) hbase
    simp only [Nat.zero_add, List.nil_append] at h2
    obtain ⟨g', cap', rfl, _⟩ := h2.form hm
    exact ⟨_, _, w', hr, h2, h3⟩
theorem wp_copy {o : Oper} {f : Act} {K : Act → World → Prop} {Q : Exit → Act → World → Prop} (s x : Operand) (t : TypeId)
    (ho : o.op = .call { callee := .builtin .append, args := #[s, x], argTypes := #[t, t] }) (e : TypeId) (i : TypeInfo) (z : Value) (size bytes : Nat) (ht : P.underlying t = some (.slice e)) (hi : P.info? e = some i) (hz : i.zero = some z)
    (hsize : i.size = size) (hby : i.bytes = bytes) (hzs : z.cells.size = size) (hsz : 0 < size) (base g : Nat) (hs : f.eval s = .slice (some ⟨g, 0, none⟩) 0 0) (hown : w.ownsRow base e size (.slice (some ⟨g, 0, none⟩) 0 0) 0 [])
    (a : Option Addr) (m c : Nat) (hx : f.eval x = .slice a m c) (news : List Value) (hl : news.length = m * size) (h0 : 0 < m → ∃ ad, a = some ad ∧ ∀ j u, news[j]? = some u → w.cell? (ad.add j) = some u) (h1 : ∀ u ∈ news, u.oneCell' = true)
    (h63 : m ≤ maxLen) (hbytes : m * bytes ≤ 140737488355328) (hbase : base ≤ w.heap.size)
    (h : ∀ a' c' w', w'.ownsRow base e size (.slice a' m c') m news → w.grownBy w' (some g) → K (f.put o.dst (.slice a' m c')) w') : o.wp P f w K Q := by
  obtain ⟨a', c', w', hr, h2, h3⟩ := run_copy (P := P) w t o.type e i z size bytes ht hi hz hsize hby hzs hsz base g hown a m c news hl h0 h1 h63 hbytes hbase
  unfold Oper.wp execOp
  simp only [ho, resolve, invoke, builtin, Sem.run_bind, Sem.run_pure, Result.andThen_ok, List.map_toArray, List.map_cons, List.map_nil, hs, hx, hr]
  exact h a' c' w' h2 h3
theorem wpList_copy {ops : Array Oper} {rest : List Oper} {o : Oper} {f : Act} {Q : Exit → Act → World → Prop} (hgd : o.guard = none) (s x : Operand) (t : TypeId)
    (ho : o.op = .call { callee := .builtin .append, args := #[s, x], argTypes := #[t, t] }) (e : TypeId) (i : TypeInfo) (z : Value) (size bytes : Nat) (ht : P.underlying t = some (.slice e)) (hi : P.info? e = some i) (hz : i.zero = some z)
    (hsize : i.size = size) (hby : i.bytes = bytes) (hzs : z.cells.size = size) (hsz : 0 < size) (base g : Nat) (hs : f.eval s = .slice (some ⟨g, 0, none⟩) 0 0) (hown : w.ownsRow base e size (.slice (some ⟨g, 0, none⟩) 0 0) 0 [])
    (a : Option Addr) (m c : Nat) (hx : f.eval x = .slice a m c) (news : List Value) (hl : news.length = m * size) (h0 : 0 < m → ∃ ad, a = some ad ∧ ∀ j u, news[j]? = some u → w.cell? (ad.add j) = some u) (h1 : ∀ u ∈ news, u.oneCell' = true)
    (h63 : m ≤ maxLen) (hbytes : m * bytes ≤ 140737488355328) (hbase : base ≤ w.heap.size)
    (h : ∀ a' c' w', w'.ownsRow base e size (.slice a' m c') m news → w.grownBy w' (some g) → wpList P ops Q rest (f.put o.dst (.slice a' m c')) w') : wpList P ops Q (o :: rest) f w :=
  wpList_plain hgd fun _ hK => wp_copy w s x t ho e i z size bytes ht hi hz hsize hby hzs hsz base g hs hown a m c hx news hl h0 h1 h63 hbytes hbase fun a' c' w' h2 h3 => hK _ _ (h a' c' w' h2 h3)
theorem step_copy {ops : Array Oper} {o : Oper} {f : Act} {K : Act → World → Prop} {Q : Exit → Act → World → Prop} {E : Prop} (hgd : o.guard = none) (s x : Operand) (t : TypeId)
    (ho : o.op = .call { callee := .builtin .append, args := #[s, x], argTypes := #[t, t] }) (e : TypeId) (i : TypeInfo) (z : Value) (size bytes : Nat) (ht : P.underlying t = some (.slice e)) (hi : P.info? e = some i) (hz : i.zero = some z)
    (hsize : i.size = size) (hby : i.bytes = bytes) (hzs : z.cells.size = size) (hsz : 0 < size) (base g : Nat) (hs : f.eval s = .slice (some ⟨g, 0, none⟩) 0 0) (hown : w.ownsRow base e size (.slice (some ⟨g, 0, none⟩) 0 0) 0 [])
    (a : Option Addr) (m c : Nat) (hx : f.eval x = .slice a m c) (news : List Value) (hl : news.length = m * size) (h0 : 0 < m → ∃ ad, a = some ad ∧ ∀ j u, news[j]? = some u → w.cell? (ad.add j) = some u) (h1 : ∀ u ∈ news, u.oneCell' = true)
    (h63 : m ≤ maxLen) (hbytes : m * bytes ≤ 140737488355328) (hbase : base ≤ w.heap.size)
    (h : ∀ a' c' w', w'.ownsRow base e size (.slice a' m c') m news → w.grownBy w' (some g) → w.ownsRow base e size (.slice (some ⟨g, 0, none⟩) 0 0) 0 [] → K (f.put o.dst (.slice a' m c')) w') :
    if Region.wanted o (yielded ops f.tmps) = true then Oper.wp P o f w K Q else E := by
  have hw : Region.wanted o (yielded ops f.tmps) = true := by simp [Region.wanted, hgd]
  rw [if_pos hw]
  exact wp_copy w s x t ho e i z size bytes ht hi hz hsize hby hzs hsz base g hs hown a m c hx news hl h0 h1 h63 hbytes hbase fun a' c' w' h2 h3 => h a' c' w' h2 h3 hown
end
theorem drewS {w : World} {v : Value} {l : List ByteArray} (h : Strs w v l) : Strs w.drew v l := h
theorem drewP {w : World} {v : Value} {l : List Pend} (h : Pends w v l) : Pends w.drew v l := h
theorem src_strs {w : World} {a : Option Addr} {n cap : Nat} {l : List ByteArray} (h : Strs w (.slice a n cap) l) : n = l.length ∧ (0 < n → ∃ ad, a = some ad ∧ ∀ j u, (cs l)[j]? = some u → w.cell? (ad.add j) = some u) := by
  obtain ⟨a', cap', e, hl, hc⟩ := h
  simp only [Value.slice.injEq] at e
  obtain ⟨rfl, rfl, rfl⟩ := e
  refine ⟨rfl, fun h0 => ?_⟩
  obtain ⟨b, off, rfl, hb, hcc⟩ := hc h0
  refine ⟨_, rfl, fun j u hu => ?_⟩
  rw [add0]
  simp only [cs, List.getElem?_map, Option.map_eq_some_iff] at hu
  obtain ⟨s, hs, rfl⟩ := hu
  exact hcc j s hs
theorem src_pends {w : World} {a : Option Addr} {n cap : Nat} {l : List Pend} (h : Pends w (.slice a n cap) l) : n = l.length ∧ (0 < n → ∃ ad, a = some ad ∧ ∀ j u, (cp l)[j]? = some u → w.cell? (ad.add j) = some u) := by
  obtain ⟨a', cap', e, hl, hc⟩ := h
  simp only [Value.slice.injEq] at e
  obtain ⟨rfl, rfl, rfl⟩ := e
  refine ⟨rfl, fun h0 => ?_⟩
  obtain ⟨b, off, rfl, hb, hcc⟩ := hc h0
  refine ⟨_, rfl, fun j u hu => ?_⟩
  rw [add0]
  have hj := (List.getElem?_eq_some_iff.1 hu).1
  rw [cp_length] at hj
  obtain ⟨s, hs⟩ : ∃ s, l[j / 2]? = some s := ⟨_, List.getElem?_eq_getElem (by omega)⟩
  have h2 := cp_at l _ s hs
  have h3 := hcc _ s hs
  rcases Nat.mod_two_eq_zero_or_one j with q | q
  · have e : j / 2 * 2 = j := by omega
    rw [e] at h2 h3
    rw [h2.1] at hu; cases hu; exact h3.1
  · have e : j / 2 * 2 + 1 = j := by omega
    rw [e] at h2
    rw [h2.2] at hu; cases hu
    rw [show off + j = off + j / 2 * 2 + 1 by omega]; exact h3.2
theorem one_cs (l : List ByteArray) : ∀ u ∈ cs l, u.oneCell' = true := by
  intro u hu
  simp only [cs, List.mem_map] at hu
  obtain ⟨s, _, rfl⟩ := hu; rfl
theorem one_cp (l : List Pend) : ∀ u ∈ cp l, u.oneCell' = true := by
  intro u hu
  simp only [cp, List.mem_flatMap, List.mem_cons, List.not_mem_nil, or_false] at hu
  obtain ⟨s, _, rfl | rfl⟩ := hu <;> rfl
theorem lit_s (base : Nat) (w : World) (hb : base ≤ w.heap.size) : (w.alloc (.cells #[] 9)).ownsRow base 9 1 (.slice (some ⟨w.heap.size, 0, none⟩) 0 0) 0 [] := World.ownsRow_lit w #[] 0 hb (by decide) rfl
theorem lit_p (base : Nat) (w : World) (hb : base ≤ w.heap.size) : (w.alloc (.cells #[] 82)).ownsRow base 82 2 (.slice (some ⟨w.heap.size, 0, none⟩) 0 0) 0 [] := World.ownsRow_lit w #[] 0 hb (by decide) rfl

set_option maxRecDepth 100000 in
set_option maxHeartbeats 800000 in
theorem cloneS_any (v : Value) (l : List ByteArray) (w : World) (hv : Strs w v l) (hz : l.length ≤ 1048576) :
    Calls Tryz.prog 75 #[v] w fun e w' => ∃ a cap, e = .returned (.slice a l.length cap) ∧ OStrs w.heap.size w' (.slice a l.length cap) l ∧ Below w.heap.size w w' := by
  obtain ⟨i0, hi, hz0, hz1, hz2⟩ := info_parts info_str
  have hv' := hv
  obtain ⟨a, cap, rfl, hl, hc⟩ := hv'
  cases a with
  | none =>
    have h0 : l.length = 0 := by
      rcases Nat.eq_zero_or_pos l.length with h | h
      · exact h
      · obtain ⟨_, _, e, _⟩ := hc h; cases e
    obtain rfl : l = [] := List.length_eq_zero_iff.1 h0
    clear hc hl hv
    have he : ∀ w : World, (binOp .eql 23 (.slice none 0 cap) (.slice none 0 0)).run Tryz.prog w = .ok (.bool true) w := fun _ => rfl
    go_enter Tryz.func75, Tryz.ntmps75
    go_wp2
    go_ret
    exact ⟨none, 0, rfl, World.ownsRow_nil _ _ _ _, Below.refl _ _⟩
  | some ad =>
    have hal : Below w.heap.size w (w.alloc (.cells #[] 9)) := (Below.refl _ _).alloc (Nat.le_refl _) _
    obtain ⟨-, hsrc⟩ := src_strs (hv.below hal)
    clear hc hl
    have he : ∀ w : World, (binOp .eql 23 (.slice (some ad) l.length cap) (.slice none 0 0)).run Tryz.prog w = .ok (.bool false) w := fun _ => rfl
    go_enter Tryz.func75, Tryz.ntmps75
    go_wp2_with (first
      | (at_builtin; refine wpList_copy _ rfl _ _ 23 rfl 9 i0 (.string ⟨#[]⟩) 1 16 Tryz.underlying23 hi hz0 hz1 hz2 rfl (by decide) w.heap.size w.heap.size rfl (lit_s _ w (Nat.le_refl _)) _ _ _ rfl (cs l) (cs_length l) hsrc (one_cs l) (by unfold maxLen; omega) (by omega) (by simp) ?_; intro a' c' w1 hown hg))
    go_ret
    exact ⟨a', c', rfl, hown, hal.grown hg (by simp) (fun k h => by cases h; exact Nat.le_refl _)⟩
set_option maxRecDepth 100000 in
set_option maxHeartbeats 800000 in
theorem cloneP_any (v : Value) (l : List Pend) (w : World) (hv : Pends w v l) (hz : l.length ≤ 1048576) :
    Calls Tryz.prog 76 #[v] w fun e w' => ∃ a cap, e = .returned (.slice a l.length cap) ∧ OPends w.heap.size w' (.slice a l.length cap) l ∧ Below w.heap.size w w' := by
  obtain ⟨i0, hi, hz0, hz1, hz2⟩ := info_parts info_pend
  have hv' := hv
  obtain ⟨a, cap, rfl, hl, hc⟩ := hv'
  cases a with
  | none =>
    have h0 : l.length = 0 := by
      rcases Nat.eq_zero_or_pos l.length with h | h
      · exact h
      · obtain ⟨_, _, e, _⟩ := hc h; cases e
    obtain rfl : l = [] := List.length_eq_zero_iff.1 h0
    clear hc hl hv
    have he : ∀ w : World, (binOp .eql 24 (.slice none 0 cap) (.slice none 0 0)).run Tryz.prog w = .ok (.bool true) w := fun _ => rfl
    go_enter Tryz.func76, Tryz.ntmps76
    go_wp2
    go_ret
    exact ⟨none, 0, rfl, World.ownsRow_nil _ _ _ _, Below.refl _ _⟩
  | some ad =>
    have hal : Below w.heap.size w (w.alloc (.cells #[] 82)) := (Below.refl _ _).alloc (Nat.le_refl _) _
    obtain ⟨-, hsrc⟩ := src_pends (hv.below hal)
    clear hc hl
    have he : ∀ w : World, (binOp .eql 24 (.slice (some ad) l.length cap) (.slice none 0 0)).run Tryz.prog w = .ok (.bool false) w := fun _ => rfl
    go_enter Tryz.func76, Tryz.ntmps76
    go_wp2_with (first
      | (at_builtin; refine wpList_copy _ rfl _ _ 24 rfl 82 i0 (.agg #[.int .i64 0, .string ⟨#[]⟩]) 2 24 Tryz.underlying24 hi hz0 hz1 hz2 rfl (by decide) w.heap.size w.heap.size rfl (lit_p _ w (Nat.le_refl _)) _ _ _ rfl (cp l) (cp_length l) hsrc (one_cp l) (by unfold maxLen; omega) (by omega) (by simp) ?_; intro a' c' w1 hown hg))
    go_ret
    exact ⟨a', c', rfl, hown, hal.grown hg (by simp) (fun k h => by cases h; exact Nat.le_refl _)⟩

/-- What is told of a disk whose two rows are laid into the block behind the box. -/
abbrev DTold (w : World) (ss : List ByteArray) (ps : List Pend) (e : Ending) (w' : World) : Prop :=
  ∃ a c a' c', e = .returned (.agg #[.slice a ss.length c, .slice a' ps.length c']) ∧ ODisk w.heap.size w' (.slice a ss.length c) (.slice a' ps.length c') ss ps ∧ Below w.heap.size w w'
theorem fin_disk {w W X : World} {a a' : Option Addr} {c c' : Nat} {ss : List ByteArray} {ps : List Pend} (b0 : Below w.heap.size w W) (e2 : W.heap.size = w.heap.size + 2) (B : Below W.heap.size W X) (ho : ODisk W.heap.size X (.slice a ss.length c) (.slice a' ps.length c') ss ps) (u u' : Value) :
    DTold w ss ps (.returned (.agg #[.slice a ss.length c, .slice a' ps.length c'])) ((X.setCell ⟨w.heap.size + 1, 0, none⟩ u).setCell ⟨w.heap.size + 1, 1, none⟩ u') := by
  refine ⟨a, c, a', c', rfl, ⟨?_, ?_⟩, ?_⟩
  · exact ((ho.1.set (p := ⟨w.heap.size + 1, 0, none⟩) (by show w.heap.size + 1 < _; omega) u).set (p := ⟨w.heap.size + 1, 1, none⟩) (by show w.heap.size + 1 < _; omega) u').mono (by omega)
  · exact ((ho.2.set (p := ⟨w.heap.size + 1, 0, none⟩) (by show w.heap.size + 1 < _; omega) u).set (p := ⟨w.heap.size + 1, 1, none⟩) (by show w.heap.size + 1 < _; omega) u').mono (by omega)
  · exact ((b0.trans (B.mono b0.size)).setCell (p := ⟨w.heap.size + 1, 0, none⟩) (by show w.heap.size ≤ w.heap.size + 1; omega) u).setCell (p := ⟨w.heap.size + 1, 1, none⟩) (by show w.heap.size ≤ w.heap.size + 1; omega) u'
set_option maxRecDepth 100000 in
set_option maxHeartbeats 1600000 in
theorem copied_any (vs vp : Value) (ss : List ByteArray) (ps : List Pend) (w : World) (hs : Strs w vs ss) (hp : Pends w vp ps) (hz : ss.length ≤ 1048576) (hzp : ps.length ≤ 1048576) :
    Calls Tryz.prog 36 #[.agg #[vs, vp]] w fun e w' => ∃ a c a' c', e = .returned (.agg #[.slice a ss.length c, .slice a' ps.length c']) ∧ ODisk w.heap.size w' (.slice a ss.length c) (.slice a' ps.length c') ss ps ∧ Below w.heap.size w w' := by
  have b0 : Below w.heap.size w ((w.alloc (.cells #[vs, vp] 26)).alloc (.cells #[.slice none 0 0, .slice none 0 0] 26)) := ((Below.refl _ _).alloc (Nat.le_refl _) _).alloc (by simp) _
  have e2 : ((w.alloc (.cells #[vs, vp] 26)).alloc (.cells #[.slice none 0 0, .slice none 0 0] 26)).heap.size = w.heap.size + 2 := by simp
  go_enter Tryz.func36, Tryz.ntmps36
  go_wp2_with fail
  obtain ⟨W, hW⟩ : ∃ W, (w.alloc (.cells #[vs, vp] 26)).alloc (.cells #[.slice none 0 0, .slice none 0 0] 26) = W := ⟨_, rfl⟩
  have k0 : W.heap[w.heap.size]? = some (.cells #[vs, vp] 26) := by rw [← hW]; exact carryA (heap_alloc_new w _) _
  have k1 : W.heap[w.heap.size + 1]? = some (.cells #[.slice none 0 0, .slice none 0 0] 26) := by rw [← hW]; have := heap_alloc_new (w.alloc (.cells #[vs, vp] 26)) (.cells #[.slice none 0 0, .slice none 0 0] 26); simpa using this
  rw [hW] at b0 e2 ⊢
  clear hW
  have hs1 := hs.below b0
  have hp1 := hp.below b0
  obtain ⟨q0, q1, -, -⟩ := blk2 k0
  obtain ⟨r0, r1, rf, -⟩ := blk2 k1
  go_region_with (first
    | (go_at_call 75; first
      | (refine (cloneS_any vs ss _ (drewS hs1) hz).mono ?_; rintro e wS ⟨a, c, rfl, hoS, hbS'⟩; have hbS := undrew hbS'; have kS := carry k0 hbS; have kS1 := carry k1 hbS; obtain ⟨s0, s1, -, -⟩ := blk2 kS; obtain ⟨s2, s3, sf, -⟩ := blk2 kS1; have BS : Below W.heap.size W wS := hbS)
      | (refine (cloneS_any vs ss _ (hs1.below BP) hz).mono ?_; rintro e wS ⟨a, c, rfl, hoS, hbS⟩; have kS := carry kP hbS; have kS1 := carry kP1 hbS; obtain ⟨s0, s1, -, -⟩ := blk2 kS; obtain ⟨s2, s3, sf, -⟩ := blk2 kS1; have BS := BP.trans (hbS.mono BP.size)))
    | (go_at_call 76; first
      | (refine (cloneP_any vp ps _ (drewP hp1) hzp).mono ?_; rintro e wP ⟨a', c', rfl, hoP, hbP'⟩; have hbP := undrew hbP'; have kP := carry k0 hbP; have kP1 := carry k1 hbP; obtain ⟨t0, t1, -, -⟩ := blk2 kP; obtain ⟨t2, t3, tf, -⟩ := blk2 kP1; have BP : Below W.heap.size W wP := hbP)
      | (refine (cloneP_any vp ps _ (hp1.below BS) hzp).mono ?_; rintro e wP ⟨a', c', rfl, hoP, hbP⟩; have kP := carry kS hbP; have kP1 := carry kS1 hbP; obtain ⟨t0, t1, -, -⟩ := blk2 kP; obtain ⟨t2, t3, tf, -⟩ := blk2 kP1; have BP := BS.trans (hbP.mono BS.size))))
  all_goals
    first
      | (have HF : Hid (∀ u u', DTold w ss ps (.returned (.agg #[.slice a ss.length c, .slice a' ps.length c'])) ((wP.setCell ⟨w.heap.size + 1, 0, none⟩ u).setCell ⟨w.heap.size + 1, 1, none⟩ u')) := fin_disk b0 e2 BP ⟨OStrs.below (B := W.heap.size) hoS hbP, hoP.mono BS.size⟩
         go_wp2
         exact bodyPost_ret (v := .agg #[.slice a ss.length c, .slice a' ps.length c']) (by simp [results, Tryz.results36, go_sem, t2, t3]) rfl (HF.out _ _))
      | (have HF : Hid (∀ u u', DTold w ss ps (.returned (.agg #[.slice a ss.length c, .slice a' ps.length c'])) ((wS.setCell ⟨w.heap.size + 1, 0, none⟩ u).setCell ⟨w.heap.size + 1, 1, none⟩ u')) := fin_disk b0 e2 BS ⟨hoS.mono BP.size, OPends.below (B := W.heap.size) hoP hbS⟩
         go_wp2
         exact bodyPost_ret (v := .agg #[.slice a ss.length c, .slice a' ps.length c']) (by simp [results, Tryz.results36, go_sem, s2, s3]) rfl (HF.out _ _))
end Go.Proofs.YtfiabbfdnmldjaaGreatDoor.T2

/-
  The specification's way of copying a disk: two rows, in whatever order.
-/
namespace Go.Proofs.YtfiabbfdnmldjaaGreatDoor.T3
open Go.RowKit
open Go.Proofs.YtfiabbfdnmldjaaGreatDoor.C0 Go.Proofs.YtfiabbfdnmldjaaGreatDoor.S0 Go.Proofs.YtfiabbfdnmldjaaGreatDoor.S1 Go.Proofs.YtfiabbfdnmldjaaGreatDoor.S2 Go.Proofs.YtfiabbfdnmldjaaGreatDoor.S3 Go.Proofs.YtfiabbfdnmldjaaGreatDoor.O1 Go.Proofs.YtfiabbfdnmldjaaGreatDoor.T2

theorem lit_at {w : World} {base g size : Nat} {e : TypeId} (h : w.heap[g]? = some (.cells #[] e (0, 0))) (hb : base ≤ g) : w.ownsRow base e size (.slice (some ⟨g, 0, none⟩) 0 0) 0 [] :=
  ⟨by simp, .inr ⟨g, 0, #[], rfl, hb, h, Nat.le_refl _, Nat.zero_le _, by simp, by simp⟩⟩
theorem alloc_at {w : World} {o : Obj} {g : Nat} (h : g = w.heap.size) : (w.alloc o).heap[g]? = some o := by subst h; exact heap_alloc_new w o
theorem balloc {a w : World} (h : Below a.heap.size a w) (o : Obj) : Below a.heap.size a (w.alloc o) := h.alloc h.size o
theorem keepS {W w' : World} {g : Nat} {a b c d : Value} {T U : TypeId} (k0 : W.heap[g]? = some (.cells #[a, b] T)) (k1 : W.heap[g + 1]? = some (.cells #[c, d] U)) (h : Below W.heap.size W w') :
    w'.cell? ⟨g, 0, none⟩ = some a ∧ w'.cell? ⟨g, 1, none⟩ = some b ∧ w'.cell? ⟨g + 1, 0, none⟩ = some c ∧ w'.cell? ⟨g + 1, 1, none⟩ = some d ∧ (∀ o, w'.frozen? ⟨g + 1, o, none⟩ = false) ∧ Below W.heap.size W w' := by
  obtain ⟨h0, h1, _, _⟩ := blk2 (carry k0 h)
  obtain ⟨h2, h3, h4, _⟩ := blk2 (carry k1 h)
  exact ⟨h0, h1, h2, h3, h4, h⟩
theorem kept_s {B base g : Nat} {X w' : World} {v : Value} {l : List ByteArray} (h : OStrs B X v l) (hl : X.ownsRow base 82 2 (.slice (some ⟨g, 0, none⟩) 0 0) 0 []) (hg : X.grownBy w' (some g)) : OStrs B w' v l :=
  own_keep h fun k hk => hg.block k (h.lt k hk).2 (fun e => own_apart (m := []) h hl k hk (by cases e; rfl))
theorem kept_p {B base g : Nat} {X w' : World} {v : Value} {l : List Pend} (h : OPends B X v l) (hl : X.ownsRow base 9 1 (.slice (some ⟨g, 0, none⟩) 0 0) 0 []) (hg : X.grownBy w' (some g)) : OPends B w' v l :=
  own_keep h fun k hk => hg.block k (h.lt k hk).2 (fun e => own_apart (l := []) hl h k (by cases e; rfl) hk)
theorem keep2 {p q r : Prop} (h : p ∧ q ∧ r) : p ∧ q := ⟨h.1, h.2.1⟩
set_option maxRecDepth 100000 in
set_option maxHeartbeats 4000000 in
theorem copy_spec (vs vp : Value) (ss : List ByteArray) (ps : List Pend) (w : World) (hs : Strs w vs ss) (hp : Pends w vp ps) (hz : ss.length ≤ 1048576) (hzp : ps.length ≤ 1048576) :
    Calls Tryz.prog 45 #[.agg #[vs, vp]] w fun e w' => DTold w ss ps e w' := by
  obtain ⟨i0, hi, hz0, hz1, hz2⟩ := info_parts info_str
  obtain ⟨j0, hj, hy0, hy1, hy2⟩ := info_parts info_pend
  obtain ⟨sa, sc, rfl⟩ : ∃ a c, vs = .slice a ss.length c := hs.len
  obtain ⟨pa, pc, rfl⟩ : ∃ a c, vp = .slice a ps.length c := by obtain ⟨a, c, e, _⟩ := hp; exact ⟨a, c, e⟩
  have b0 : Below w.heap.size w ((w.alloc (.cells #[.slice sa ss.length sc, .slice pa ps.length pc] 26)).alloc (.cells #[.slice none 0 0, .slice none 0 0] 26)) := ((Below.refl _ _).alloc (Nat.le_refl _) _).alloc (by simp) _
  have e2 : ((w.alloc (.cells #[.slice sa ss.length sc, .slice pa ps.length pc] 26)).alloc (.cells #[.slice none 0 0, .slice none 0 0] 26)).heap.size = w.heap.size + 2 := by simp
  go_enter Tryz.func45, Tryz.ntmps45
  go_wp2_with fail
  obtain ⟨W, hW⟩ : ∃ W, (w.alloc (.cells #[.slice sa ss.length sc, .slice pa ps.length pc] 26)).alloc (.cells #[.slice none 0 0, .slice none 0 0] 26) = W := ⟨_, rfl⟩
  have k0 : W.heap[w.heap.size]? = some (.cells #[.slice sa ss.length sc, .slice pa ps.length pc] 26) := by rw [← hW]; exact carryA (heap_alloc_new w _) _
  have k1 : W.heap[w.heap.size + 1]? = some (.cells #[.slice none 0 0, .slice none 0 0] 26) := by rw [← hW]; have := heap_alloc_new (w.alloc (.cells #[.slice sa ss.length sc, .slice pa ps.length pc] 26)) (.cells #[.slice none 0 0, .slice none 0 0] 26); simpa using this
  rw [hW] at b0 e2 ⊢
  clear hW
  have hs1 := hs.below b0
  have hp1 := hp.below b0
  obtain ⟨q0, q1, -, q9⟩ := blk2 k0
  obtain ⟨r0, r1, rf, r9⟩ := blk2 k1
  have E2 : Hid (W.heap.size = w.heap.size + 2) := e2
  clear e2
  go_region_held3 (fun w' => w'.cell? ⟨w.heap.size, 0, none⟩ = some (.slice sa ss.length sc) ∧ w'.cell? ⟨w.heap.size, 1, none⟩ = some (.slice pa ps.length pc))
    (first
      | exact keep2 (keepS k0 k1 BS)
      | exact keep2 (keepS k0 k1 BP)
      | go_keep)
    (first
      | (refine step_copy _ (by rfl) _ _ 23 (by rfl) 9 i0 (.string ⟨#[]⟩) 1 16 Tryz.underlying23 hi hz0 hz1 hz2 rfl (by decide) W.heap.size _ (by rfl)
           (lit_at (by first
             | exact alloc_at (by simp)
             | exact carryA (alloc_at (by simp)) _
             | exact (hgP.block _ (by first | (simp; done) | (simp; omega)) (by first | (simp; done) | (simp; omega))).trans (alloc_at (by simp))
             | exact (hgP.block _ (by first | (simp; done) | (simp; omega)) (by first | (simp; done) | (simp; omega))).trans (carryA (alloc_at (by simp)) _)) (by first | omega | simp | (have := BP.size; omega)))
           _ _ _ (by rfl) (cs ss) (cs_length ss) (src_strs (hs1.below (by first | exact BS | exact BP | exact balloc BS _ | exact balloc BP _ | exact (balloc (Below.refl _ _) _).drew | exact (balloc (balloc (Below.refl _ _) _) _).drew))).2 (one_cs ss) (by unfold maxLen; omega) (by omega) (Below.size (w := W) (B := W.heap.size) (by first | exact BS | exact BP | exact balloc BS _ | exact balloc BP _ | exact (balloc (Below.refl _ _) _).drew | exact (balloc (balloc (Below.refl _ _) _) _).drew)) ?_
         intro a c wS hoS hgS lS
         have BS : Below W.heap.size W wS := Below.grown (w := _) (by first | exact BS | exact BP | exact balloc BS _ | exact balloc BP _ | exact (balloc (Below.refl _ _) _).drew | exact (balloc (balloc (Below.refl _ _) _) _).drew) hgS (Below.size (w := W) (B := W.heap.size) (by first | exact BS | exact BP | exact balloc BS _ | exact balloc BP _ | exact (balloc (Below.refl _ _) _).drew | exact (balloc (balloc (Below.refl _ _) _) _).drew)) (fun k h => by cases h; first | omega | simp | (have := BP.size; omega))
         obtain ⟨-, -, s2, s3, sf, -⟩ := keepS k0 k1 BS
         try (have hoP2 : OPends W.heap.size wS (.slice a' ps.length c') ps := (by first | exact kept_p hoP lS hgS | exact kept_p (own_keep hoP (fun g h => Below.heap_alloc _ _ _ (hoP.lt g h).2)) lS hgS)))
      | (refine step_copy _ (by rfl) _ _ 24 (by rfl) 82 j0 (.agg #[.int .i64 0, .string ⟨#[]⟩]) 2 24 Tryz.underlying24 hj hy0 hy1 hy2 rfl (by decide) W.heap.size _ (by rfl)
           (lit_at (by first
             | exact alloc_at (by simp)
             | exact carryA (alloc_at (by simp)) _
             | exact (hgS.block _ (by first | (simp; done) | (simp; omega)) (by first | (simp; done) | (simp; omega))).trans (alloc_at (by simp))
             | exact (hgS.block _ (by first | (simp; done) | (simp; omega)) (by first | (simp; done) | (simp; omega))).trans (carryA (alloc_at (by simp)) _)) (by first | omega | simp | (have := BS.size; omega)))
           _ _ _ (by rfl) (cp ps) (cp_length ps) (src_pends (hp1.below (by first | exact BS | exact BP | exact balloc BS _ | exact balloc BP _ | exact (balloc (Below.refl _ _) _).drew | exact (balloc (balloc (Below.refl _ _) _) _).drew))).2 (one_cp ps) (by unfold maxLen; omega) (by omega) (Below.size (w := W) (B := W.heap.size) (by first | exact BS | exact BP | exact balloc BS _ | exact balloc BP _ | exact (balloc (Below.refl _ _) _).drew | exact (balloc (balloc (Below.refl _ _) _) _).drew)) ?_
         intro a' c' wP hoP hgP lP
         have BP : Below W.heap.size W wP := Below.grown (w := _) (by first | exact BS | exact BP | exact balloc BS _ | exact balloc BP _ | exact (balloc (Below.refl _ _) _).drew | exact (balloc (balloc (Below.refl _ _) _) _).drew) hgP (Below.size (w := W) (B := W.heap.size) (by first | exact BS | exact BP | exact balloc BS _ | exact balloc BP _ | exact (balloc (Below.refl _ _) _).drew | exact (balloc (balloc (Below.refl _ _) _) _).drew)) (fun k h => by cases h; first | omega | simp | (have := BS.size; omega))
         obtain ⟨-, -, t2, t3, tf, -⟩ := keepS k0 k1 BP
         try (have hoS2 : OStrs W.heap.size wP (.slice a ss.length c) ss := (by first | exact kept_s hoS lP hgP | exact kept_s (own_keep hoS (fun g h => Below.heap_alloc _ _ _ (hoS.lt g h).2)) lP hgP))))
  all_goals
    first
      | (have HF : Hid (∀ u u', DTold w ss ps (.returned (.agg #[.slice a ss.length c, .slice a' ps.length c'])) ((wP.setCell ⟨w.heap.size + 1, 0, none⟩ u).setCell ⟨w.heap.size + 1, 1, none⟩ u')) := fin_disk b0 E2.out BP ⟨hoS2, hoP⟩
         go_wp2
         exact bodyPost_ret (v := .agg #[.slice a ss.length c, .slice a' ps.length c']) (by simp [results, Tryz.results45, go_sem, t2, t3]) rfl (HF.out _ _))
      | (have HF : Hid (∀ u u', DTold w ss ps (.returned (.agg #[.slice a ss.length c, .slice a' ps.length c'])) ((wS.setCell ⟨w.heap.size + 1, 0, none⟩ u).setCell ⟨w.heap.size + 1, 1, none⟩ u')) := fin_disk b0 E2.out BS ⟨hoS, hoP2⟩
         go_wp2
         exact bodyPost_ret (v := .agg #[.slice a ss.length c, .slice a' ps.length c']) (by simp [results, Tryz.results45, go_sem, s2, s3]) rfl (HF.out _ _))
end Go.Proofs.YtfiabbfdnmldjaaGreatDoor.T3

/-
  A new disk; a refusal.
-/
namespace Go.Proofs.YtfiabbfdnmldjaaGreatDoor.T4
open Go.RowKit
open Go.Proofs.YtfiabbfdnmldjaaGreatDoor.C0 Go.Proofs.YtfiabbfdnmldjaaGreatDoor.S0 Go.Proofs.YtfiabbfdnmldjaaGreatDoor.S1 Go.Proofs.YtfiabbfdnmldjaaGreatDoor.S2 Go.Proofs.YtfiabbfdnmldjaaGreatDoor.S3 Go.Proofs.YtfiabbfdnmldjaaGreatDoor.O1 Go.Proofs.YtfiabbfdnmldjaaGreatDoor.T0 Go.Proofs.YtfiabbfdnmldjaaGreatDoor.T2
def emp : ByteArray := ⟨#[]⟩
theorem none_told (w w' : World) (hb : Below w.heap.size w w') : DTold w [] [] (.returned (.agg #[.slice none 0 0, .slice none 0 0])) w' :=
  ⟨none, 0, none, 0, rfl, ⟨World.ownsRow_nil _ _ _ _, World.ownsRow_nil _ _ _ _⟩, hb⟩
def newOf (n : Int) : List ByteArray := if 1 ≤ n ∧ n ≤ 64 then List.replicate n.toNat emp else []
theorem new_row (w : World) (n : Nat) (hn : n ≤ 64) : OStrs w.heap.size (w.alloc (.cells (madeCells #[Value.string ⟨#[]⟩] n) 9)) (.slice (some ⟨w.heap.size, 0, none⟩) n n) (List.replicate n emp) := by
  have hrow : (w.alloc (.cells (madeCells #[Value.string ⟨#[]⟩] n) 9)).rowIs w.heap.size 9 (List.replicate n emp).length (fun _ => .string ⟨#[]⟩) :=
    ⟨_, Go.Deep.blk_alloc_new _ _, by rw [size_madeCells, List.length_replicate], fun i hi => by rw [List.length_replicate] at hi; simp [madeCells, hi, Nat.mod_one]⟩
  have := ostrs_of_row hrow (fun i s hs => by rw [List.getElem?_replicate] at hs; split at hs <;> cases hs; rfl) (Nat.le_refl _) (by rw [List.length_replicate]; unfold maxLen; omega)
  rwa [List.length_replicate] at this
theorem new_end (w : World) (k : Nat) (hk : k ≤ 64) (o : Obj) : DTold w (List.replicate k emp) [] (.returned (.agg #[.slice (some ⟨w.heap.size + 1, 0, none⟩) k k, .slice none 0 0])) ((w.alloc o).alloc (.cells (madeCells #[Value.string ⟨#[]⟩] k) 9)) := by
  have h := new_row (w.alloc o) k hk
  have e : (w.alloc o).heap.size = w.heap.size + 1 := by simp
  rw [e] at h
  refine ⟨some ⟨w.heap.size + 1, 0, none⟩, k, none, 0, by rw [List.length_replicate]; rfl, ⟨?_, World.ownsRow_nil _ _ _ _⟩, ((Below.refl _ _).alloc (Nat.le_refl _) _).alloc (by simp) _⟩
  rw [List.length_replicate]
  exact h.mono (by omega)
set_option maxRecDepth 100000 in
set_option maxHeartbeats 800000 in
theorem new_spec (n : Int) (w : World) : Calls Tryz.prog 66 #[.int .i64 n] w fun e w' => DTold w (newOf n) [] e w' := by
  by_cases h : 1 ≤ n ∧ n ≤ 64
  · obtain ⟨k, rfl⟩ : ∃ k : Nat, n = k := ⟨n.toNat, by omega⟩
    obtain ⟨h1, h2⟩ := h
    have hmk := run_make_row' (P := Tryz.prog) 23 9 (.string ⟨#[]⟩) 16 Tryz.underlying23 info_str rfl .i64 .i64 k (by omega) (by omega)
    have hN : newOf k = List.replicate k emp := by unfold newOf; rw [if_pos ⟨h1, h2⟩]; rfl
    rw [hN]
    clear hN
    go_enter Tryz.func66, Tryz.ntmps66
    go_wp2_with (first
      | (go_at_call 82; refine (is_yes _ _ _ _ (by omega) (by omega)).mono ?_; rintro e w1 ⟨rfl, rfl⟩))
    exact bodyPost_ret (v := .agg #[.slice (some ⟨w.heap.size + 1, 0, none⟩) k k, .slice none 0 0]) (by simp [results, Tryz.results66, go_sem]) rfl (new_end w k (by omega) _)
  · have hN : newOf n = [] := by unfold newOf; rw [if_neg h]
    rw [hN]
    clear hN
    go_enter Tryz.func66, Tryz.ntmps66
    go_wp2_with (first
      | (go_at_call 82; refine (is_no _ _ _ _ h).mono ?_; rintro e w1 ⟨rfl, rfl⟩))
    exact bodyPost_ret (v := .agg #[.slice none 0 0, .slice none 0 0]) (by simp [results, Tryz.results66, go_sem]) rfl (none_told w _ ((Below.refl _ _).alloc (Nat.le_refl _) _))

/-- What is told of a disk and a text, with a code. -/
abbrev OTold (w : World) (ss : List ByteArray) (ps : List Pend) (d : ByteArray) (k : Int) (e : Ending) (w' : World) : Prop :=
  ∃ a c a' c', e = .returned (.agg #[.slice a ss.length c, .slice a' ps.length c', .string d, .int .i64 k]) ∧ ODisk w.heap.size w' (.slice a ss.length c) (.slice a' ps.length c') ss ps ∧ Below w.heap.size w w'
theorem none_otold (w w' : World) (k : Int) (hb : Below w.heap.size w w') : OTold w [] [] emp k (.returned (.agg #[.slice none 0 0, .slice none 0 0, .string ⟨#[]⟩, .int .i64 k])) w' :=
  ⟨none, 0, none, 0, rfl, ⟨World.ownsRow_nil _ _ _ _, World.ownsRow_nil _ _ _ _⟩, hb⟩
set_option maxRecDepth 100000 in
theorem ill_spec (k : Int) (w : World) : Calls Tryz.prog 85 #[.int .i64 k] w fun e w' => e = .returned (.agg #[.slice none 0 0, .slice none 0 0, .string ⟨#[]⟩, .int .i64 k]) ∧ Below w.heap.size w w' := by
  go_enter Tryz.func85, Tryz.ntmps85
  go_wp2
  exact bodyPost_ret (v := .agg #[.slice none 0 0, .slice none 0 0, .string ⟨#[]⟩, .int .i64 k]) (by simp [results, Tryz.results85, go_sem]) rfl ⟨rfl, (Below.refl _ _).alloc (Nat.le_refl _) _⟩
end Go.Proofs.YtfiabbfdnmldjaaGreatDoor.T4

/-
  The specification's reading of a sector.
-/
namespace Go.Proofs.YtfiabbfdnmldjaaGreatDoor.T5
open Go.RowKit
open Go.Proofs.YtfiabbfdnmldjaaGreatDoor.C0 Go.Proofs.YtfiabbfdnmldjaaGreatDoor.S0 Go.Proofs.YtfiabbfdnmldjaaGreatDoor.S1 Go.Proofs.YtfiabbfdnmldjaaGreatDoor.S2 Go.Proofs.YtfiabbfdnmldjaaGreatDoor.S3 Go.Proofs.YtfiabbfdnmldjaaGreatDoor.O1 Go.Proofs.YtfiabbfdnmldjaaGreatDoor.T0 Go.Proofs.YtfiabbfdnmldjaaGreatDoor.T2 Go.Proofs.YtfiabbfdnmldjaaGreatDoor.T3 Go.Proofs.YtfiabbfdnmldjaaGreatDoor.T4
open Go.Proofs.YtfiabbfdnmldjaaGreatDoor.Dk (Out ill readR readOf readOf_snoc rightB right_iff)
abbrev OT (w : World) (o : Out) (e : Ending) (w' : World) : Prop := OTold w o.ss o.ps o.d o.k e w'
/-- Four cells of one block, stored one by one. -/
abbrev set4 (w : World) (g : Nat) (a b c d : Value) : World := (((w.setCell ⟨g, 0, none⟩ a).setCell ⟨g, 1, none⟩ b).setCell ⟨g, 2, none⟩ c).setCell ⟨g, 3, none⟩ d
theorem odisk_set {B : Nat} {w : World} {vs vp : Value} {ss : List ByteArray} {ps : List Pend} (h : ODisk B w vs vp ss ps) {p : Addr} (hp : p.block < B) (u : Value) : ODisk B (w.setCell p u) vs vp ss ps := ⟨h.1.set hp u, h.2.set hp u⟩
theorem set4_disk {B g : Nat} {w : World} {vs vp : Value} {ss : List ByteArray} {ps : List Pend} (h : ODisk B w vs vp ss ps) (hg : g < B) (a b c d : Value) : ODisk B (set4 w g a b c d) vs vp ss ps :=
  odisk_set (odisk_set (odisk_set (odisk_set h hg _) hg _) hg _) hg _
theorem set4_below {B g : Nat} {a0 w : World} (h : Below B a0 w) (hg : B ≤ g) (a b c d : Value) : Below B a0 (set4 w g a b c d) :=
  (((h.setCell (p := ⟨g, 0, none⟩) hg _).setCell (p := ⟨g, 1, none⟩) hg _).setCell (p := ⟨g, 2, none⟩) hg _).setCell (p := ⟨g, 3, none⟩) hg _
/-- A disk that is told behind a box and a result's block. -/
theorem fin_out {w X : World} {a a' : Option Addr} {c c' B : Nat} {ss : List ByteArray} {ps : List Pend} {d : ByteArray} {k : Int} (h : Below w.heap.size w X) (ho : ODisk B X (.slice a ss.length c) (.slice a' ps.length c') ss ps) (hB : w.heap.size + 2 ≤ B) (p q r s : Value) :
    OTold w ss ps d k (.returned (.agg #[.slice a ss.length c, .slice a' ps.length c', .string d, .int .i64 k])) (set4 X (w.heap.size + 1) p q r s) :=
  ⟨a, c, a', c', rfl, (set4_disk ho (by omega) _ _ _ _).mono (by omega), set4_below h (by omega) _ _ _ _⟩
theorem fin_ill {w X : World} {k : Int} (h : Below w.heap.size w X) (p q r s : Value) :
    OT w (ill k) (.returned (.agg #[.slice none 0 0, .slice none 0 0, .string ⟨#[]⟩, .int .i64 k])) (set4 X (w.heap.size + 1) p q r s) :=
  none_otold w _ k (set4_below h (by omega) _ _ _ _)
theorem k_box (w : World) (x y : Obj) : ((w.alloc x).alloc y).heap[w.heap.size]? = some x ∧ ((w.alloc x).alloc y).heap[w.heap.size + 1]? = some y ∧ Below w.heap.size w ((w.alloc x).alloc y) ∧ ((w.alloc x).alloc y).heap.size = w.heap.size + 2 :=
  ⟨carryA (heap_alloc_new w x) y, by have := heap_alloc_new (w.alloc x) y; rwa [asz] at this, ((Below.refl _ _).alloc (Nat.le_refl _) _).alloc (by simp) _, by simp⟩
def RelR (t : ByteArray) (ps : List Pend) (i : Int) (x j : Value) : Prop := ∃ k : Nat, k ≤ ps.length ∧ j = .int .i64 k ∧ x = .string (readOf t (ps.take k) i)
set_option maxRecDepth 100000 in
set_option maxHeartbeats 1600000 in
theorem read_spec (vs vp : Value) (ss : List ByteArray) (ps : List Pend) (i : Int) (w : World) (hs : Strs w vs ss) (hp : Pends w vp ps) (hz : ∀ s ∈ ss, s.size ≤ maxLen) (hzp : ∀ p ∈ ps, p.2.size ≤ maxLen) (hi1 : -9223372036854775808 ≤ i) (hi2 : i ≤ 9223372036854775807) :
    Calls Tryz.prog 42 #[.agg #[vs, vp], .int .i64 i] w fun e w' => OT w (readR ss ps i) e w' := by
  obtain ⟨sa, sc, rfl⟩ : ∃ a c, vs = .slice a ss.length c := hs.len
  obtain ⟨pa, pc, rfl⟩ : ∃ a c, vp = .slice a ps.length c := by obtain ⟨a, c, e, _⟩ := hp; exact ⟨a, c, e⟩
  obtain ⟨k0, k1, b0, z0⟩ := k_box w (.cells #[.slice sa ss.length sc, .slice pa ps.length pc] 26) (.cells #[.slice none 0 0, .slice none 0 0, .string ⟨#[]⟩, .int .i64 0] 72)
  have hmax : ss.length ≤ maxLen := by obtain ⟨_, _, _, h, _⟩ := hs; exact h
  unfold maxLen at hmax
  by_cases hR : rightB ss ps = false
  · have hO : readR ss ps i = ill 1 := by unfold readR; rw [if_pos hR]
    rw [hO]
    clear hO
    go_enter Tryz.func42, Tryz.ntmps42
    go_wp2_with fail
    refine (right_spec _ _ ss ps _ (hs.below b0) (hp.below b0) hz hzp).mono ?_
    rintro e w1 ⟨rfl, hb1⟩
    have k01 := carry k0 hb1
    have k11 := carry k1 hb1
    have B1 := b0.trans (hb1.mono b0.size)
    have z1 : w.heap.size + 2 ≤ w1.heap.size := by have := hb1.size; omega
    clear k0 k1 hb1 z0 b0
    obtain ⟨q0, q1, -, -⟩ := blk2 k01
    rw [hR]
    go_wp2_with fail
    refine (ill_spec 1 _).mono ?_
    rintro e w2 ⟨rfl, hb2⟩
    obtain ⟨r0, r1, r2, r3, rf, -⟩ := blk4 (carry k11 hb2)
    have HF : Hid (∀ p q r s, OT w (ill 1) (.returned (.agg #[.slice none 0 0, .slice none 0 0, .string ⟨#[]⟩, .int .i64 1])) (set4 w2 (w.heap.size + 1) p q r s)) := fin_ill (B1.trans (hb2.mono B1.size))
    go_wp2
    exact bodyPost_ret (v := .agg #[.slice none 0 0, .slice none 0 0, .string ⟨#[]⟩, .int .i64 1]) (by simp [results, Tryz.results42, go_sem, r0, r1, r2, r3]) rfl (HF.out _ _ _ _)
  have hR1 : rightB ss ps = true := by simpa using hR
  obtain ⟨n1, n2, n3, -, -⟩ := (right_iff ss ps).1 hR1
  by_cases hin : 0 ≤ i ∧ i < ss.length
  case neg =>
    have hO : readR ss ps i = ill 8 := by unfold readR; rw [if_neg hR, if_neg hin]
    rw [hO]
    clear hO
    go_enter Tryz.func42, Tryz.ntmps42
    go_wp2_with fail
    refine (right_spec _ _ ss ps _ (hs.below b0) (hp.below b0) hz hzp).mono ?_
    rintro e w1 ⟨rfl, hb1⟩
    have k01 := carry k0 hb1
    have k11 := carry k1 hb1
    have B1 := b0.trans (hb1.mono b0.size)
    have z1 : w.heap.size + 2 ≤ w1.heap.size := by have := hb1.size; omega
    clear k0 k1 hb1 z0 b0
    obtain ⟨q0, q1, -, -⟩ := blk2 k01
    rw [hR1]
    have HF : Hid (∀ w2, Below w1.heap.size w1 w2 → ∀ p q r s, OT w (ill 8) (.returned (.agg #[.slice none 0 0, .slice none 0 0, .string ⟨#[]⟩, .int .i64 8])) (set4 w2 (w.heap.size + 1) p q r s)) := fun w2 hb2 => fin_ill (B1.trans (hb2.mono B1.size))
    go_wp2_with (first
      | (go_at_call 82; refine (is_no _ _ _ _ (by omega)).mono ?_; rintro e w9 ⟨rfl, rfl⟩)
      | (go_at_call 85; refine (ill_spec 8 _).mono ?_; rintro e w2 ⟨rfl, hb2⟩; obtain ⟨r0, r1, r2, r3, rf, -⟩ := blk4 (carry k11 hb2)))
    exact bodyPost_ret (v := .agg #[.slice none 0 0, .slice none 0 0, .string ⟨#[]⟩, .int .i64 8]) (by simp [results, Tryz.results42, go_sem, r0, r1, r2, r3]) rfl (HF.out _ hb2 _ _ _ _)
  obtain ⟨i0, i1⟩ := hin
  obtain ⟨j, rfl⟩ : ∃ j : Nat, i = j := ⟨i.toNat, by omega⟩
  have hj : j < ss.length := by omega
  obtain ⟨t, ht⟩ : ∃ t, ss[j]? = some t := ⟨_, List.getElem?_eq_getElem hj⟩
  have hO : readR ss ps j = ⟨ss, ps, readOf t ps j, 0⟩ := by
    unfold readR; rw [if_neg hR, if_pos ⟨i0, i1⟩]
    simp [List.getD_eq_getElem?_getD, ht]
  rw [hO]
  clear hO hR
  have HT : Hid (ss[j]? = some t) := ht
  clear ht
  go_enter Tryz.func42, Tryz.ntmps42
  go_wp2_with fail
  refine (right_spec _ _ ss ps _ (hs.below b0) (hp.below b0) hz hzp).mono ?_
  rintro e w1 ⟨rfl, hb1⟩
  have k01 := carry k0 hb1
  have k11 := carry k1 hb1
  have B1 := b0.trans (hb1.mono b0.size)
  have z1 : w.heap.size + 2 ≤ w1.heap.size := by have := hb1.size; omega
  clear k0 k1 hb1 z0 b0
  obtain ⟨q0, q1, -, -⟩ := blk2 k01
  rw [hR1]
  have hs1 := hs.below B1
  obtain ⟨a, cap, e, hl, hc⟩ := hs1
  simp only [Value.slice.injEq] at e
  obtain ⟨rfl, -, rfl⟩ := e
  obtain ⟨b, off, rfl, hbb, hcc⟩ := hc (by omega)
  have c0 := hcc j t HT.out
  have HS := hs.below B1
  obtain ⟨a2, cap2, e, hl2, hc2⟩ := hp.below B1
  simp only [Value.slice.injEq] at e
  obtain ⟨rfl, -, rfl⟩ := e
  clear hcc hc hl
  go_wp2_with (first
    | (go_at_call 82; refine (is_yes _ _ _ _ (by omega) (by omega)).mono ?_; rintro e w9 ⟨rfl, rfl⟩))
  go_loop [5, 6] (fun x k => RelR t ps j x k) (fun _ k => ps.length - (intOf k).toNat)
  case atStart => exact ⟨0, Nat.zero_le _, rfl, rfl⟩
  case round =>
    obtain ⟨k, hk, rfl, rfl⟩ := hrel
    by_cases hlt : k < ps.length
    · have hlt' : (k : Int) < (ps.length : Int) := by omega
      obtain ⟨b2, off2, rfl, hbb2, hcc2⟩ := hc2 (by omega)
      obtain ⟨p, hpk⟩ : ∃ p, ps[k]? = some p := ⟨_, List.getElem?_eq_getElem hlt⟩
      obtain ⟨d0, d1⟩ := hcc2 k p hpk
      have HN : Hid (readOf t (ps.take (k + 1)) j = if p.1 = (j : Int) then p.2 else readOf t (ps.take k) j) := by rw [get_take_succ ps k p hpk, readOf_snoc]; rfl
      clear hpk hcc2
      by_cases he : p.1 = (j : Int)
      · have he' : (p.1 == (j : Int)) = true := by simpa using he
        rw [if_pos he] at HN
        clear he
        go_wp2
        go_round
        case rel => exact ⟨k + 1, by omega, by go_num, by rw [HN.out]⟩
        case measure => simp [intOf]; omega
      · have he' : (p.1 == (j : Int)) = false := by simpa using he
        rw [if_neg he] at HN
        clear he
        go_wp2
        go_round
        case rel => exact ⟨k + 1, by omega, by go_num, by rw [HN.out]⟩
        case measure => simp [intOf]; omega
    · rw [List.take_of_length_le (by omega)]
      go_wp2_with fail
      refine (copy_spec _ _ ss ps _ HS (hp.below B1) (by omega) (by omega)).mono ?_
      rintro e w2 ⟨f, m, f', m', rfl, ho2, hb2⟩
      obtain ⟨r0, r1, r2, r3, rf, -⟩ := blk4 (carry k11 hb2)
      have HF : Hid (∀ p q r s, OTold w ss ps (readOf t ps j) 0 (.returned (.agg #[.slice f ss.length m, .slice f' ps.length m', .string (readOf t ps j), .int .i64 0])) (set4 w2 (w.heap.size + 1) p q r s)) := fin_out (B1.trans (hb2.mono B1.size)) ho2 z1
      go_wp2
      exact bodyPost_ret (v := .agg #[.slice f ss.length m, .slice f' ps.length m', .string (readOf t ps j), .int .i64 0]) (by simp [results, Tryz.results42, go_sem, r0, r1, r2, r3]) rfl (HF.out _ _ _ _)
end Go.Proofs.YtfiabbfdnmldjaaGreatDoor.T5
