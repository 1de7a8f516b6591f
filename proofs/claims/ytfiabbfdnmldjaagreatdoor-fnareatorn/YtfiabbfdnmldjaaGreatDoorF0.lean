/-
  A drawn disk with an area: what it is made of.
-/
import Derived.Test.YtfiabbfdnmldjaaGreatDoorX3
import Derived.Test.YtfiabbfdnmldjaaGreatDoorW2
import Derived.Test.YtfiabbfdnmldjaaGreatDoorPQ
import Derived.Test.YtfiabbfdnmldjaaGreatDoorPN
namespace Go.Proofs.YtfiabbfdnmldjaaGreatDoor.F0
open Go.RowKit
open Go.Proofs.YtfiabbfdnmldjaaGreatDoor.C0 Go.Proofs.YtfiabbfdnmldjaaGreatDoor.D6 Go.Proofs.YtfiabbfdnmldjaaGreatDoor.D7 Go.Proofs.YtfiabbfdnmldjaaGreatDoor.D8 Go.Proofs.YtfiabbfdnmldjaaGreatDoor.E0 Go.Proofs.YtfiabbfdnmldjaaGreatDoor.E3 Go.Proofs.YtfiabbfdnmldjaaGreatDoor.S0 Go.Proofs.YtfiabbfdnmldjaaGreatDoor.S1 Go.Proofs.YtfiabbfdnmldjaaGreatDoor.S2 Go.Proofs.YtfiabbfdnmldjaaGreatDoor.S4 Go.Proofs.YtfiabbfdnmldjaaGreatDoor.O1 Go.Proofs.YtfiabbfdnmldjaaGreatDoor.T2 Go.Proofs.YtfiabbfdnmldjaaGreatDoor.T3 Go.Proofs.YtfiabbfdnmldjaaGreatDoor.T4 Go.Proofs.YtfiabbfdnmldjaaGreatDoor.T5 Go.Proofs.YtfiabbfdnmldjaaGreatDoor.TC Go.Proofs.YtfiabbfdnmldjaaGreatDoor.U2 Go.Proofs.YtfiabbfdnmldjaaGreatDoor.U4 Go.Proofs.YtfiabbfdnmldjaaGreatDoor.U5 Go.Proofs.YtfiabbfdnmldjaaGreatDoor.W1 Go.Proofs.YtfiabbfdnmldjaaGreatDoor.W2
open Go.Proofs.YtfiabbfdnmldjaaGreatDoor.Dk (Out St rightB right_iff write_ok flush_ok new_right runS doSt doSt_right crashR crashOf writeR flushR)
theorem runS_right : ∀ (l : List St) (ss : List ByteArray) (ps : List Pend), rightB ss ps = true → (runS ss ps l).k = 0 → rightB (runS ss ps l).ss (runS ss ps l).ps = true
  | [], _, _, h, _ => h
  | s :: l, ss, ps, _, hk => by
    obtain ⟨h1, h2⟩ := runS_cons hk
    rw [h2] at hk ⊢
    exact runS_right l _ _ (doSt_right h1) hk
theorem put_right {ss : List ByteArray} {ps : List Pend} {t : ByteArray} {n : Int} (h : (putA ss ps t n).k = 0) : rightB (putA ss ps t n).ss (putA ss ps t n).ps = true := by
  obtain ⟨-, h1, -, -, h4, h5⟩ := put_ok h
  rw [h5]
  exact runS_right _ _ _ (V4.code_right h1) h4
/-- A new disk that is formatted is right. -/
theorem form_new (n : Int) (h1 : 3 ≤ n) (h2 : n ≤ 64) : rightB (formA (newOf n) []).ss (formA (newOf n) []).ps = true := by
  have hR : rightB (newOf n) [] = true := by
    unfold newOf
    rw [if_pos (by omega)]
    exact new_right n (by omega) h2
  have hl : (newOf n).length = n.toNat := by unfold newOf; rw [if_pos (by omega)]; simp
  have hhs := head_size 0 0 0
  have e1 : formO (newOf n) [] = runS (newOf n) [] [.write 0 (headB 0 0 0), .flush] := by
    unfold formO
    rw [if_neg (by rw [hR]; simp), if_neg (by omega)]
  have hw : (writeR (newOf n) [] 0 (headB 0 0 0)).k = 0 := by
    unfold writeR
    rw [if_neg (by omega), if_neg (by rw [hR]; simp; omega), if_pos (by omega), if_neg (by simp)]
  have hR2 := doSt_right (s := .write 0 (headB 0 0 0)) (ss := newOf n) (ps := []) hw
  have hk : (formO (newOf n) []).k = 0 := by
    rw [e1]
    have e2 : runS (newOf n) [] [.write 0 (headB 0 0 0), .flush] = runS (doSt (newOf n) [] (.write 0 (headB 0 0 0))).ss (doSt (newOf n) [] (.write 0 (headB 0 0 0))).ps [.flush] := by
      show (if (doSt (newOf n) [] (.write 0 (headB 0 0 0))).k = 0 then _ else _) = _
      rw [if_pos (show (doSt (newOf n) [] (.write 0 (headB 0 0 0))).k = 0 from hw)]
    rw [e2]
    show (if (flushR (doSt (newOf n) [] (.write 0 (headB 0 0 0))).ss (doSt (newOf n) [] (.write 0 (headB 0 0 0))).ps).k = 0 then _ else _ : Out).k = 0
    rw [if_pos (by unfold flushR; rw [if_neg (by rw [hR2]; simp)])]
    rfl
  obtain ⟨-, f2, f3⟩ := form_read (ss := newOf n) (ps := []) hk
  rw [f2]
  exact f3
/-- What a put told, held in a variable of its own. -/
structure YA (w0 : World) (Y : Nat) (o : AOut) (a : Option Addr) (c : Nat) (a' : Option Addr) (c' : Nat) (wr : World) : Prop where
  loc : wr.heap[Y]? = some (.cells #[.slice a o.ss.length c, .slice a' o.ps.length c', .string o.t, .int .i64 o.g, .int .i64 o.k] 31)
  own : ODisk w0.heap.size wr (.slice a o.ss.length c) (.slice a' o.ps.length c') o.ss o.ps
  lt : w0.heap.size < Y
theorem YA.below {w0 wr w' : World} {Y : Nat} {o : AOut} {a a' : Option Addr} {c c' : Nat} (h : YA w0 Y o a c a' c' wr) (hb : Below wr.heap.size wr w') : YA w0 Y o a c a' c' w' := ⟨carry h.loc hb, h.own.below hb, h.lt⟩
theorem YA.drawn {p : Nat} {w0 wr w' : World} {Y : Nat} {o : AOut} {a a' : Option Addr} {c c' : Nat} (h : YA w0 Y o a c a' c' wr) (ht : Wrote (only p) wr w') (hp : p < w0.heap.size) : YA w0 Y o a c a' c' w' :=
  ⟨carryP h.loc ht (by have := h.lt; omega), diskP h.own ht hp, h.lt⟩
theorem YA.drew {w0 wr : World} {Y : Nat} {o : AOut} {a a' : Option Addr} {c c' : Nat} (h : YA w0 Y o a c a' c' wr) : YA w0 Y o a c a' c' wr.drew := ⟨h.loc, h.own, h.lt⟩
theorem DS.takeA {B p n L c c' : Nat} {v : Value} {w0 wr : World} {ss : List ByteArray} {ps : List Pend} {a a' : Option Addr} {Y : Nat} {o : AOut} {f f' : Option Addr} {d d' : Nat} (h : DS B p n v w0 L ss ps a c a' c' wr) (y : YA w0 Y o f d f' d' wr) :
    DS B p n v w0 L o.ss o.ps f d f' d' ((wr.setCell ⟨L, 0, none⟩ (.slice f o.ss.length d)).setCell ⟨L, 1, none⟩ (.slice f' o.ps.length d')) := by
  have ht := D7.set2_wrote wr L (.slice f o.ss.length d) (.slice f' o.ps.length d')
  have hlt := h.lt
  have hplt := h.plt
  exact ⟨D7.set2_at h.loc _ _, keep_blocks y.own fun g hg => ht.block g (y.own.rows g hg).2 (row_ne y.own h.loc (by decide) (by decide) g hg), carryW h.res ht (by omega), h.dr.wrote ht (fun g e => by omega), ⟨ht.os.trans h.wr.os, ht.tape.trans h.wr.tape, ht.output.trans h.wr.output, Nat.le_trans h.wr.size ht.size, fun k hk hs => (ht.block k (Nat.lt_of_lt_of_le hk h.wr.size) (by omega)).trans (h.wr.block k hk hs)⟩, h.lt, h.plt⟩
/-- Another disk is stored into the disk's variable. -/
theorem DS.store {B p n L c c' : Nat} {v : Value} {w0 wr : World} {ss ss2 : List ByteArray} {ps ps2 : List Pend} {a a' : Option Addr} {f f' : Option Addr} {d d' : Nat} (h : DS B p n v w0 L ss ps a c a' c' wr) (ho : ODisk w0.heap.size wr (.slice f ss2.length d) (.slice f' ps2.length d') ss2 ps2) :
    DS B p n v w0 L ss2 ps2 f d f' d' ((wr.setCell ⟨L, 0, none⟩ (.slice f ss2.length d)).setCell ⟨L, 1, none⟩ (.slice f' ps2.length d')) := by
  have ht := D7.set2_wrote wr L (.slice f ss2.length d) (.slice f' ps2.length d')
  have hlt := h.lt
  have hplt := h.plt
  exact ⟨D7.set2_at h.loc _ _, keep_blocks ho fun g hg => ht.block g (ho.rows g hg).2 (row_ne ho h.loc (by decide) (by decide) g hg), carryW h.res ht (by omega), h.dr.wrote ht (fun g e => by omega), ⟨ht.os.trans h.wr.os, ht.tape.trans h.wr.tape, ht.output.trans h.wr.output, Nat.le_trans h.wr.size ht.size, fun k hk hs => (ht.block k (Nat.lt_of_lt_of_le hk h.wr.size) (by omega)).trans (h.wr.block k hk hs)⟩, h.lt, h.plt⟩
abbrev zeroA : Obj := .cells #[.slice none 0 0, .slice none 0 0, .string ⟨#[]⟩, .int .i64 0, .int .i64 0] 31
/-- The disk's variable, and, where it is laid already, the block of what a put tells. -/
structure AY (B p n : Nat) (v : Value) (w0 : World) (L : Nat) (ss : List ByteArray) (ps : List Pend) (a : Option Addr) (c : Nat) (a' : Option Addr) (c' : Nat) (oy : Option Nat) (wr : World) : Prop where
  ds : DS B p n v w0 L ss ps a c a' c' wr
  ky : ∀ Y, oy = some Y → wr.heap[Y]? = some zeroA ∧ w0.heap.size < Y ∧ Y ≠ L
/-- What is there when a put was tried. -/
def RYA (B p n : Nat) (v : Value) (w0 : World) (L : Nat) (ss : List ByteArray) (ps : List Pend) (a : Option Addr) (c : Nat) (a' : Option Addr) (c' : Nat) (s : Value) (wx : World) : Prop :=
  ∃ (Y : Nat) (o : AOut) (f : Option Addr) (d : Nat) (f' : Option Addr) (d' : Nat), s = .pointer (some ⟨Y, 0, none⟩) ∧ YA w0 Y o f d f' d' wx ∧ (o.k = 0 → rightB o.ss o.ps = true) ∧ DS B p n v w0 L ss ps a c a' c' wx ∧ Y ≠ L
section
variable {B p n L c c' : Nat} {v : Value} {w0 wr w' : World} {ss : List ByteArray} {ps : List Pend} {a a' : Option Addr} {oy : Option Nat}
theorem AY.of (h : DS B p n v w0 L ss ps a c a' c' wr) : AY B p n v w0 L ss ps a c a' c' none wr := ⟨h, fun Y e => by cases e⟩
theorem AY.lay (h : AY B p n v w0 L ss ps a c a' c' none wr) : AY B p n v w0 L ss ps a c a' c' (some wr.heap.size) (wr.alloc zeroA) :=
  ⟨h.ds.below (albel _ _), fun Y e => by cases e; exact ⟨heap_alloc_new _ _, by have := h.ds.lt; have := lt_some h.ds.loc; omega, by have := lt_some h.ds.loc; omega⟩⟩
theorem AY.drew (h : AY B p n v w0 L ss ps a c a' c' oy wr) : AY B p n v w0 L ss ps a c a' c' oy wr.drew := ⟨h.ds.drew, h.ky⟩
theorem AY.below (h : AY B p n v w0 L ss ps a c a' c' oy wr) (hb : Below wr.heap.size wr w') : AY B p n v w0 L ss ps a c a' c' oy w' := ⟨h.ds.below hb, fun Y e => ⟨carry (h.ky Y e).1 hb, (h.ky Y e).2⟩⟩
theorem AY.drawn (h : AY B p n v w0 L ss ps a c a' c' oy wr) (hd : Dr B p n v w') (ht : Wrote (only p) wr w') : AY B p n v w0 L ss ps a c a' c' oy w' :=
  ⟨h.ds.drawn hd ht, fun Y e => ⟨carryP (h.ky Y e).1 ht (by have := (h.ky Y e).2.1; have := h.ds.plt; omega), (h.ky Y e).2⟩⟩
theorem aN (most : Int) (h : AY B p n v w0 L ss ps a c a' c' oy wr) (l : 0 < most) (u : most ≤ 9223372036854775807) :
    Calls Tryz.prog 31 #[.pointer (some ⟨p, 0, none⟩), .int .i64 most] wr fun e w' => ∃ r : Nat, e = .returned (.int .i64 r) ∧ (r : Int) < most ∧ AY B p n v w0 L ss ps a c a' c' oy w' :=
  (drawN most h.ds.dr l u).mono (fun _ _ ⟨r, he, hr, hd, ht⟩ => ⟨r, he, hr, h.drawn hd ht⟩)
theorem aBytes (k : Nat) (h : AY B p n v w0 L ss ps a c a' c' oy wr) (hk : k ≤ 1000000) :
    Calls Tryz.prog 30 #[.pointer (some ⟨p, 0, none⟩), .int .i64 k] wr fun e w' => ∃ t : ByteArray, e = .returned (.string t) ∧ t.size = k ∧ AY B p n v w0 L ss ps a c a' c' oy w' :=
  (drawBytes k h.ds.dr hk).mono (fun _ _ ⟨t, he, hr, hd, ht⟩ => ⟨t, he, hr, h.drawn hd ht⟩)
theorem aPut (i : Int) (t : ByteArray) (h : AY B p n v w0 L ss ps a c a' c' oy wr) (hR : rightB ss ps = true) (hi1 : -9223372036854775808 ≤ i) (hi2 : i ≤ 9223372036854775807) (ht : t.size ≤ 1000000) :
    Calls Tryz.prog 14 #[.agg #[.slice a ss.length c, .slice a' ps.length c'], .string t, .int .i64 i] wr fun e w' => ∃ (o : AOut) (f : Option Addr) (d : Nat) (f' : Option Addr) (d' : Nat), e = .returned (.agg #[.slice f o.ss.length d, .slice f' o.ps.length d', .string o.t, .int .i64 o.g, .int .i64 o.k]) ∧ ODisk w0.heap.size w' (.slice f o.ss.length d) (.slice f' o.ps.length d') o.ss o.ps ∧ (o.k = 0 → rightB o.ss o.ps = true) ∧ AY B p n v w0 L ss ps a c a' c' oy w' :=
  (X3.put_spec _ _ ss ps t i wr h.ds.own.1.strs h.ds.own.2.pends (small_sizes hR).1 (small_sizes hR).2 (by unfold maxLen; omega) hi1 hi2).mono
    (fun _ _ ⟨f, d, f', d', he, ho, hb⟩ => ⟨putA ss ps t i, f, d, f', d', he, ho.mono h.ds.wr.size, put_right, h.below hb⟩)
theorem AY.at {Y : Nat} (h : AY B p n v w0 L ss ps a c a' c' (some Y) wr) : wr.heap[Y]? = some zeroA := (h.ky Y rfl).1
theorem keepAA (h : AY B p n v w0 L ss ps a c a' c' oy wr) (o : Obj) : (wr.alloc o).cell? ⟨L, 0, none⟩ = some (.slice a ss.length c) ∧ (wr.alloc o).cell? ⟨L, 1, none⟩ = some (.slice a' ps.length c') := keepL (h.ds.below (albel _ _))
theorem keepSA {Y : Nat} (h : AY B p n v w0 L ss ps a c a' c' (some Y) wr) (x y z u s : Value) : (set5 wr Y x y z u s).cell? ⟨L, 0, none⟩ = some (.slice a ss.length c) ∧ (set5 wr Y x y z u s).cell? ⟨L, 1, none⟩ = some (.slice a' ps.length c') := by
  obtain ⟨k, h1, h2⟩ := h.ky Y rfl
  exact keepL (h.ds.elsewhere k (by decide) (by decide) h1 h2 (set5_wrote wr Y x y z u s))
theorem RYA.laid {Y : Nat} {o : AOut} {f f' : Option Addr} {d d' : Nat} (h : AY B p n v w0 L ss ps a c a' c' (some Y) wr) (ho : ODisk w0.heap.size wr (.slice f o.ss.length d) (.slice f' o.ps.length d') o.ss o.ps) (hr : o.k = 0 → rightB o.ss o.ps = true) :
    RYA B p n v w0 L ss ps a c a' c' (.pointer (some ⟨Y, 0, none⟩)) (set5 wr Y (.slice f o.ss.length d) (.slice f' o.ps.length d') (.string o.t) (.int .i64 o.g) (.int .i64 o.k)) := by
  obtain ⟨k, h1, h2⟩ := h.ky Y rfl
  have ht := set5_wrote wr Y (.slice f o.ss.length d) (.slice f' o.ps.length d') (.string o.t) (.int .i64 o.g) (.int .i64 o.k)
  exact ⟨Y, o, f, d, f', d', rfl, ⟨set5_at k _ _ _ _ _, keep_blocks ho fun g hg => ht.block g (ho.rows g hg).2 (row_ne ho k (by decide) (by decide) g hg), h1⟩, hr, h.ds.elsewhere k (by decide) (by decide) h1 h2 ht, h2⟩
theorem RYA.fresh {o : AOut} {f f' : Option Addr} {d d' : Nat} (h : AY B p n v w0 L ss ps a c a' c' oy wr) (ho : ODisk w0.heap.size wr (.slice f o.ss.length d) (.slice f' o.ps.length d') o.ss o.ps) (hr : o.k = 0 → rightB o.ss o.ps = true) :
    RYA B p n v w0 L ss ps a c a' c' (.pointer (some ⟨wr.heap.size, 0, none⟩)) (wr.alloc (.cells #[.slice f o.ss.length d, .slice f' o.ps.length d', .string o.t, .int .i64 o.g, .int .i64 o.k] 31)) :=
  ⟨wr.heap.size, o, f, d, f', d', rfl, ⟨heap_alloc_new _ _, ho.below (albel _ _), by have := h.ds.lt; have := lt_some h.ds.loc; omega⟩, hr, h.ds.below (albel _ _), by have := lt_some h.ds.loc; omega⟩
/-- A sector is another. -/
theorem FD.setAt {g : Nat} (j : Nat) (t : ByteArray) (h : FD B p n v w0 L ss ps (some ⟨g, 0, none⟩) c a' c' wr) (ht : t.size ≤ maxLen) : FD B p n v w0 L (ss.set j t) ps (some ⟨g, 0, none⟩) c a' c' (wr.setCell ⟨g, j, none⟩ (.string t)) := by
  have hw := set1_wrote wr g j (.string t)
  have hgL : g ≠ L := row_ne h.ds.own h.ds.loc (by decide) (by decide) g (.inl rfl)
  have hgR : g ≠ w0.heap.size := row_ne h.ds.own h.ds.res (by decide) (by decide) g (.inl rfl)
  have hgz := (h.ds.own.rows g (.inl rfl)).1
  obtain ⟨x1, x2, x3⟩ := wrote_on h.ds hw (fun k e => by omega)
  refine ⟨⟨?_, ⟨?_, own_keep h.ds.own.2 fun k hk => Below.heap_setCell _ _ _ _ (fun e => own_apart h.ds.own.1 h.ds.own.2 g rfl (by rw [← (show k = g from e)]; exact hk))⟩, x1, x2, x3, h.ds.lt, h.ds.plt⟩, by simpa using h.l1, h.l2, fun s hs => ?_, h.z2⟩
  · rw [List.length_set]; exact (Below.heap_setCell _ _ _ _ (fun e => hgL e.symm)).trans h.ds.loc
  · rw [List.length_set]; exact stored_strs h.ds.own.1 rfl j t
  · rcases List.mem_or_eq_of_mem_set hs with hs | rfl
    · exact h.z1 s hs
    · exact ht
end
end Go.Proofs.YtfiabbfdnmldjaaGreatDoor.F0
