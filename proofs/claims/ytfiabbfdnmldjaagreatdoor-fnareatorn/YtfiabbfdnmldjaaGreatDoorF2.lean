/-
  A drawn disk with an area: the walk.
-/
import Derived.Test.YtfiabbfdnmldjaaGreatDoorF0
import Derived.Test.YtfiabbfdnmldjaaGreatDoorF1
namespace Go.Proofs.YtfiabbfdnmldjaaGreatDoor.F2
open Go.RowKit
open Go.Proofs.YtfiabbfdnmldjaaGreatDoor.C0 Go.Proofs.YtfiabbfdnmldjaaGreatDoor.D6 Go.Proofs.YtfiabbfdnmldjaaGreatDoor.D7 Go.Proofs.YtfiabbfdnmldjaaGreatDoor.D8 Go.Proofs.YtfiabbfdnmldjaaGreatDoor.D9 Go.Proofs.YtfiabbfdnmldjaaGreatDoor.E0 Go.Proofs.YtfiabbfdnmldjaaGreatDoor.E3 Go.Proofs.YtfiabbfdnmldjaaGreatDoor.S0 Go.Proofs.YtfiabbfdnmldjaaGreatDoor.S1 Go.Proofs.YtfiabbfdnmldjaaGreatDoor.S2 Go.Proofs.YtfiabbfdnmldjaaGreatDoor.S4 Go.Proofs.YtfiabbfdnmldjaaGreatDoor.O1 Go.Proofs.YtfiabbfdnmldjaaGreatDoor.T2 Go.Proofs.YtfiabbfdnmldjaaGreatDoor.T3 Go.Proofs.YtfiabbfdnmldjaaGreatDoor.T4 Go.Proofs.YtfiabbfdnmldjaaGreatDoor.T5 Go.Proofs.YtfiabbfdnmldjaaGreatDoor.TC Go.Proofs.YtfiabbfdnmldjaaGreatDoor.U4 Go.Proofs.YtfiabbfdnmldjaaGreatDoor.U5 Go.Proofs.YtfiabbfdnmldjaaGreatDoor.W1 Go.Proofs.YtfiabbfdnmldjaaGreatDoor.W2 Go.Proofs.YtfiabbfdnmldjaaGreatDoor.F0 Go.Proofs.YtfiabbfdnmldjaaGreatDoor.F1
open Go.Proofs.YtfiabbfdnmldjaaGreatDoor.Dk (rightB right_iff crashR crashOf)
/-- The disk's variable holds a right disk. -/
def RDS (B p n : Nat) (v : Value) (w0 : World) (L : Nat) (wr : World) : Prop :=
  ∃ (ss : List ByteArray) (ps : List Pend) (a : Option Addr) (c : Nat) (a' : Option Addr) (c' : Nat), rightB ss ps = true ∧ DS B p n v w0 L ss ps a c a' c' wr
def RelA (B p n : Nat) (v : Value) (w0 : World) (L : Nat) (x : Value) (wr : World) : Prop := ∃ k : Nat, k ≤ 5 ∧ x = .int .i64 k ∧ RDS B p n v w0 L wr
/-- .. and beside it what a put told. -/
def RYB (B p n : Nat) (v : Value) (w0 : World) (L : Nat) (ss : List ByteArray) (ps : List Pend) (a : Option Addr) (c : Nat) (a' : Option Addr) (c' : Nat) (Y : Nat) (wx : World) : Prop :=
  ∃ (o : AOut) (f : Option Addr) (d : Nat) (f' : Option Addr) (d' : Nat), YA w0 Y o f d f' d' wx ∧ (o.k = 0 → rightB o.ss o.ps = true) ∧ DS B p n v w0 L ss ps a c a' c' wx
section
variable {B p n L c c' : Nat} {v : Value} {w0 wr w' : World} {ss : List ByteArray} {ps : List Pend} {a a' : Option Addr}
theorem RYB.of {Y : Nat} (h : RYA B p n v w0 L ss ps a c a' c' (.pointer (some ⟨Y, 0, none⟩)) wr) : RYB B p n v w0 L ss ps a c a' c' Y wr := by
  obtain ⟨Z, o, f, d, f', d', e, h1, h2, h3, _⟩ := h
  obtain rfl : Y = Z := by simpa using e
  exact ⟨o, f, d, f', d', h1, h2, h3⟩
theorem RelA.next (k : Nat) (h0 : 0 < k) (hk : k ≤ 5) (h : RDS B p n v w0 L wr) : RelA B p n v w0 L (.int .i64 ((k : Int) - 1)) wr :=
  ⟨k - 1, by omega, by congr 1; omega, h⟩
theorem ds_keep (h : DS B p n v w0 L ss ps a c a' c' wr) : AY B p n v w0 L ss ps a c a' c' none wr := AY.of h
theorem dKeep (h : DS B p n v w0 L ss ps a c a' c' wr) :
    Calls Tryz.prog 52 #[.pointer (some ⟨p, 0, none⟩)] wr fun e w' => ∃ (l : List Int) (f : Option Addr) (cap : Nat), e = .returned (.slice f l.length cap) ∧ l.length ≤ 13 ∧ Ints w' (.slice f l.length cap) l ∧ DS B p n v w0 L ss ps a c a' c' w' :=
  (keep_any _ p n v wr h.dr).mono (fun _ _ ⟨l, f, cap, he, hl, ho, hd, ht⟩ => ⟨l, f, cap, he, hl, ho.ints, h.drawn hd ht⟩)
theorem dCrash {vk : Value} {l : List Int} (h : DS B p n v w0 L ss ps a c a' c' wr) (hR : rightB ss ps = true) (hl : l.length ≤ 13) (hi : Ints wr vk l) :
    Calls Tryz.prog 67 #[.agg #[.slice a ss.length c, .slice a' ps.length c'], vk] wr fun e w' => ∃ (ss2 : List ByteArray) (ps2 : List Pend) (f : Option Addr) (d : Nat) (f' : Option Addr) (d' : Nat), e = .returned (.agg #[.slice f ss2.length d, .slice f' ps2.length d']) ∧ ODisk w0.heap.size w' (.slice f ss2.length d) (.slice f' ps2.length d') ss2 ps2 ∧ rightB ss2 ps2 = true ∧ DS B p n v w0 L ss ps a c a' c' w' := by
  obtain ⟨-, h2, h3, -, -⟩ := (right_iff ss ps).1 hR
  refine (crash_spec _ _ vk ss ps l wr h.own.1.strs h.own.2.pends hi (small_sizes hR).1 (small_sizes hR).2 (by omega) (by omega)).mono (fun _ _ ⟨f, d, f', d', he, ho, hb⟩ => ⟨(crashR ss ps l).1, (crashR ss ps l).2, f, d, f', d', he, ho.mono h.wr.size, ?_, h.below hb⟩)
  rw [crash_yes (by omega) hR]
  exact crash_right l hR
theorem dOne (most : Int) (h : DS B p n v w0 L ss ps a c a' c' wr) (l : 0 < most) (u : most ≤ 9223372036854775807) :
    Calls Tryz.prog 32 #[.pointer (some ⟨p, 0, none⟩), .int .i64 most] wr fun e w' => ∃ b : Bool, e = .returned (.bool b) ∧ DS B p n v w0 L ss ps a c a' c' w' :=
  (drawOne most h.dr l u).mono (fun _ _ ⟨b, he, hd, ht⟩ => ⟨b, he, h.drawn hd ht⟩)
/-- The disk's variable and what a put told, side by side. -/
structure YB (B p n : Nat) (v : Value) (w0 : World) (L Y : Nat) (ss : List ByteArray) (ps : List Pend) (a : Option Addr) (c : Nat) (a' : Option Addr) (c' : Nat) (o : AOut) (f : Option Addr) (d : Nat) (f' : Option Addr) (d' : Nat) (wx : World) : Prop where
  ys : YA w0 Y o f d f' d' wx
  hr : o.k = 0 → rightB o.ss o.ps = true
  ds : DS B p n v w0 L ss ps a c a' c' wx
  ne : Y ≠ L
section
variable {Y : Nat} {o : AOut} {f f' : Option Addr} {d d' : Nat}
theorem YB.drawn (h : YB B p n v w0 L Y ss ps a c a' c' o f d f' d' wr) (hd : Dr B p n v w') (ht : Wrote (only p) wr w') : YB B p n v w0 L Y ss ps a c a' c' o f d f' d' w' := ⟨h.ys.drawn ht h.ds.plt, h.hr, h.ds.drawn hd ht, h.ne⟩
theorem YB.below (h : YB B p n v w0 L Y ss ps a c a' c' o f d f' d' wr) (hb : Below wr.heap.size wr w') : YB B p n v w0 L Y ss ps a c a' c' o f d f' d' w' := ⟨h.ys.below hb, h.hr, h.ds.below hb, h.ne⟩
theorem YB.drew (h : YB B p n v w0 L Y ss ps a c a' c' o f d f' d' wr) : YB B p n v w0 L Y ss ps a c a' c' o f d f' d' wr.drew := ⟨h.ys.drew, h.hr, h.ds.drew, h.ne⟩
theorem bN (most : Int) (h : YB B p n v w0 L Y ss ps a c a' c' o f d f' d' wr) (l : 0 < most) (u : most ≤ 9223372036854775807) :
    Calls Tryz.prog 31 #[.pointer (some ⟨p, 0, none⟩), .int .i64 most] wr fun e w' => ∃ r : Nat, e = .returned (.int .i64 r) ∧ (r : Int) < most ∧ YB B p n v w0 L Y ss ps a c a' c' o f d f' d' w' :=
  (drawN most h.ds.dr l u).mono (fun _ _ ⟨r, he, hr, hd, ht⟩ => ⟨r, he, hr, h.drawn hd ht⟩)
theorem bBytes (k : Nat) (h : YB B p n v w0 L Y ss ps a c a' c' o f d f' d' wr) (hk : k ≤ 1000000) :
    Calls Tryz.prog 30 #[.pointer (some ⟨p, 0, none⟩), .int .i64 k] wr fun e w' => ∃ t : ByteArray, e = .returned (.string t) ∧ t.size = k ∧ YB B p n v w0 L Y ss ps a c a' c' o f d f' d' w' :=
  (drawBytes k h.ds.dr hk).mono (fun _ _ ⟨t, he, hr, hd, ht⟩ => ⟨t, he, hr, h.drawn hd ht⟩)
theorem bPut (i : Int) (t : ByteArray) (h : YB B p n v w0 L Y ss ps a c a' c' o f d f' d' wr) (hR : rightB ss ps = true) (hi1 : -9223372036854775808 ≤ i) (hi2 : i ≤ 9223372036854775807) (ht : t.size ≤ 1000000) :
    Calls Tryz.prog 14 #[.agg #[.slice a ss.length c, .slice a' ps.length c'], .string t, .int .i64 i] wr fun e w' => ∃ (o2 : AOut) (f2 : Option Addr) (d2 : Nat) (f2' : Option Addr) (d2' : Nat), e = .returned (.agg #[.slice f2 o2.ss.length d2, .slice f2' o2.ps.length d2', .string o2.t, .int .i64 o2.g, .int .i64 o2.k]) ∧ ODisk w0.heap.size w' (.slice f2 o2.ss.length d2) (.slice f2' o2.ps.length d2') o2.ss o2.ps ∧ (o2.k = 0 → rightB o2.ss o2.ps = true) ∧ YB B p n v w0 L Y ss ps a c a' c' o f d f' d' w' :=
  (X3.put_spec _ _ ss ps t i wr h.ds.own.1.strs h.ds.own.2.pends (small_sizes hR).1 (small_sizes hR).2 (by unfold maxLen; omega) hi1 hi2).mono
    (fun _ _ ⟨f, d, f', d', he, ho, hb⟩ => ⟨putA ss ps t i, f, d, f', d', he, ho.mono h.ds.wr.size, put_right, h.below hb⟩)
theorem keepB5 (h : YB B p n v w0 L Y ss ps a c a' c' o f d f' d' wr) (x y z u s : Value) : (set5 wr Y x y z u s).cell? ⟨L, 0, none⟩ = some (.slice a ss.length c) ∧ (set5 wr Y x y z u s).cell? ⟨L, 1, none⟩ = some (.slice a' ps.length c') :=
  keepL (h.ds.elsewhere h.ys.loc (by decide) (by decide) h.ys.lt h.ne (set5_wrote wr Y x y z u s))
theorem YB.put {o2 : AOut} {g g' : Option Addr} {e e' : Nat} (h : YB B p n v w0 L Y ss ps a c a' c' o f d f' d' wr) (ho : ODisk w0.heap.size wr (.slice g o2.ss.length e) (.slice g' o2.ps.length e') o2.ss o2.ps) (h2 : o2.k = 0 → rightB o2.ss o2.ps = true) :
    RYB B p n v w0 L ss ps a c a' c' Y (set5 wr Y (.slice g o2.ss.length e) (.slice g' o2.ps.length e') (.string o2.t) (.int .i64 o2.g) (.int .i64 o2.k)) := by
  have ht := set5_wrote wr Y (.slice g o2.ss.length e) (.slice g' o2.ps.length e') (.string o2.t) (.int .i64 o2.g) (.int .i64 o2.k)
  exact ⟨o2, g, e, g', e', ⟨set5_at h.ys.loc _ _ _ _ _, keep_blocks ho fun k hk => ht.block k (ho.rows k hk).2 (row_ne ho h.ys.loc (by decide) (by decide) k hk), h.ys.lt⟩, h2, h.ds.elsewhere h.ys.loc (by decide) (by decide) h.ys.lt h.ne ht⟩
end
end
theorem fSpoil {B p n L c c' : Nat} {v : Value} {w0 wr : World} {ss : List ByteArray} {ps : List Pend} {a a' : Option Addr} (t : ByteArray) (h : FD B p n v w0 L ss ps a c a' c' wr) (ht : t.size ≤ 1000) :
    Calls Tryz.prog 68 #[.pointer (some ⟨p, 0, none⟩), .string t] wr fun e w' => ∃ u : ByteArray, e = .returned (.string u) ∧ u.size ≤ t.size + 1 ∧ FD B p n v w0 L ss ps a c a' c' w' :=
  (spoil_any B p n v t wr h.ds.dr ht).mono (fun _ _ ⟨u, he, hu, hd, hw⟩ => ⟨u, he, hu, h.drawn hd hw⟩)
theorem sect_cell {B p n L c c' g : Nat} {v : Value} {w0 wr : World} {ss : List ByteArray} {ps : List Pend} {a' : Option Addr} {r : Nat} {t : ByteArray} (h : FD B p n v w0 L ss ps (some ⟨g, 0, none⟩) c a' c' wr) (ht : ss[r]? = some t) : wr.cell? ⟨g, r, none⟩ = some (.string t) ∧ wr.frozen? ⟨g, r, none⟩ = false := by
  have hr := (List.getElem?_eq_some_iff.1 ht).1
  refine ⟨?_, (own_cell_s h.ds.own.1 r hr).2⟩
  obtain ⟨a2, cap, e, -, hc⟩ := h.ds.own.1.strs
  obtain ⟨b, off, rfl, -, hcc⟩ := hc (by omega)
  obtain ⟨⟨rfl, rfl⟩, -⟩ : (g = b ∧ 0 = off) ∧ c = cap := by simpa using e
  have := hcc r t ht
  rwa [Nat.zero_add] at this
theorem fieldA (a b c d e : Value) (w : World) : (Instr.field 31 (.agg #[a, b, c, d, e]) 0).run Tryz.prog w = .ok (.agg #[a, b]) w := by kernel_rfl
set_option maxRecDepth 100000 in
set_option maxHeartbeats 8000000 in
theorem l04Disk_any (B p n : Nat) (v : Value) (w : World) (h : Dr B p n v w) :
    Calls Tryz.prog 29 #[.pointer (some ⟨p, 0, none⟩)] w fun e w' => Drawn B p n v w e w' := by
  have hplt := h.lt
  have hfd := fieldA
  go_enter Tryz.func29, Tryz.ntmps29
  go_wp2_with fail
  refine (drawN 12 (h.below (albel _ _)) (by omega) (by omega)).mono ?_
  rintro e w1 ⟨r1, rfl, hr1, h1, t1⟩
  have k1 := carryP (heap_alloc_new w _) t1 (by omega)
  have u1 : Wrote (only p) w w1 := (Wrote.of_below (albel _ _)).trans t1
  have hz1 := lt_some k1
  clear t1
  go_wp2_with fail
  refine (new_spec (3 + (r1 : Int)) _).mono ?_
  rintro e w2 ⟨na, nc, na', nc', rfl, o2, hb2⟩
  have hn1 : (newOf (3 + (r1 : Int))).length ≤ 64 := by
    unfold newOf
    split
    · simp; omega
    · simp
  have hn2 : ∀ s ∈ newOf (3 + (r1 : Int)), s.size ≤ maxLen := by
    intro s hs
    unfold newOf at hs
    split at hs
    · have := (List.mem_replicate.1 hs).2
      subst this
      exact Nat.zero_le _
    · simp at hs
  have hfr := form_new (3 + (r1 : Int)) (by omega) (by omega)
  have hfs : ∀ W vs vp, Strs W vs (newOf (3 + (r1 : Int))) → Pends W vp [] → Calls Tryz.prog 15 #[.agg #[vs, vp]] W fun e w' => AT W (formA (newOf (3 + (r1 : Int))) []) e w' := fun W vs vp h1 h2 => U5.format_spec vs vp _ _ W h1 h2 hn2 (by simp)
  generalize formA (newOf (3 + (r1 : Int))) [] = o at hfr hfs
  generalize newOf (3 + (r1 : Int)) = ns at *
  have hnil : ([] : List Pend).length = 0 := rfl
  go_wp2_with fail
  refine (hfs _ _ _ o2.1.strs o2.2.pends).mono ?_
  rintro e w3 ⟨fa, m, fa', m', rfl, o3, hb3⟩
  have hz2 := hb2.size
  have D3 : DS B p n v w w3.heap.size o.ss o.ps fa m fa' m' (w3.alloc (.cells #[.slice fa o.ss.length m, .slice fa' o.ps.length m'] 26)) :=
    ⟨heap_alloc_new _ _, (o3.mono (by omega)).below (albel _ _), carryA (carry (carry k1 hb2) hb3) _, ((h1.below hb2).below hb3).below (albel _ _), trW (trW (trW u1 hb2) hb3) (albel _ _), by have := hb3.size; omega, hplt⟩
  clear o2 hb2 h1 u1 k1 hz1 o3 hb3 hz2 hfs
  go_wp2_with fail
  refine (drawN 5 D3.dr (by omega) (by omega)).mono ?_
  rintro e w4 ⟨r2, rfl, hr2, h4, t4⟩
  have H0 : Hid (RelA B p n v w w3.heap.size (.int .i64 (r2 : Nat)) w4) := ⟨r2, by omega, rfl, o.ss, o.ps, fa, m, fa', m', hfr, D3.drawn h4 t4⟩
  clear D3 h4 t4 hfr
  generalize w3.heap.size = L at *
  go_wp2
  go_loopw [4] (fun x wr => RelA B p n v w L x wr) (fun x _ => (intOf x).toNat)
  case atStart => exact H0.out
  case round =>
    clear H0
    obtain ⟨k, hk, rfl, ss, ps, a, c, a', c', HR, D⟩ := hrel
    by_cases hlt : 0 < k
    · have hlt' : (0 : Int) < (k : Int) := by omega
      obtain ⟨q0, q1, -, q9⟩ := blk2 D.loc
      go_wp2
      go_cut [5] (fun s5 wx => RYA B p n v w L ss ps a c a' c' s5 wx)
      case first => as_aux_lemma =>
        have Y := AY.of D
        go_region_held3 (fun w' => w'.cell? ⟨L, 0, none⟩ = some (.slice a ss.length c) ∧ w'.cell? ⟨L, 1, none⟩ = some (.slice a' ps.length c'))
          (first
            | with_reducible exact keepL Y.ds
            | with_reducible exact keepL Y.ds.drew
            | with_reducible exact keepAA Y _
            | with_reducible exact keepAA Y.drew _
            | with_reducible exact keepL Y.lay.ds.drew
            | with_reducible exact keepSA Y _ _ _ _ _
            | go_keep)
          (first
            | (go_at_call 31
               refine (aN (B := B) (p := p) (n := n) (v := v) (w0 := w) (L := L) (ss := ss) (ps := ps) (a := a) (c := c) (a' := a') (c' := c') (oy := ?_) _ ?hE (by omega) (by omega)).mono ?_
               case hE => first | with_reducible exact Y | with_reducible exact Y.lay | with_reducible exact Y.drew | with_reducible exact Y.lay.drew
               rintro e xn ⟨i, rfl, hi, Y⟩)
            | (go_at_call 30
               refine (aBytes (B := B) (p := p) (n := n) (v := v) (w0 := w) (L := L) (ss := ss) (ps := ps) (a := a) (c := c) (a' := a') (c' := c') (oy := ?_) _ ?hE (by omega)).mono ?_
               case hE => first | with_reducible exact Y | with_reducible exact Y.lay
               rintro e xb ⟨t, rfl, ht, Y⟩)
            | (go_at_call 14
               refine (aPut (B := B) (p := p) (n := n) (v := v) (w0 := w) (L := L) (ss := ss) (ps := ps) (a := a) (c := c) (a' := a') (c' := c') (oy := ?_) _ _ ?hE HR (by omega) (by omega) (by omega)).mono ?_
               case hE => first | with_reducible exact Y | with_reducible exact Y.lay
               rintro e x4 ⟨o, f, d, f', d', rfl, o4, hr4, Y⟩
               first
                 | (obtain ⟨y0, y1, y2, y3, y4, yf, y9⟩ := U4.blk5 (AY.at Y))
                 | skip))
        all_goals
          go_wp2_with fail
          go_meet
          case rel => first | with_reducible exact RYA.fresh Y o4 hr4 | with_reducible exact RYA.laid Y o4 hr4
      case rest =>
        obtain ⟨Y, o, f, d, f', d', rfl, hY, hr, D', hne⟩ := hcut
        have Z : YB B p n v w L Y ss ps a c a' c' o f d f' d' wc := ⟨hY, hr, D', hne⟩
        clear q0 q1 q9 D hY hr D'
        go_wp2_with fail
        refine (drawOne 4 Z.ds.dr (by omega) (by omega)).mono ?_
        rintro e w5 ⟨bo, rfl, h5, t5⟩
        have Z5 := Z.drawn h5 t5
        clear Z h5 t5
        go_upto_if 26 with fail
        go_cut [] (fun wx => RYB B p n v w L ss ps a c a' c' Y wx)
        case first =>
          cases bo
          · go_wp2_with fail
            go_meet
            case rel => exact ⟨o, f, d, f', d', Z5.ys, Z5.hr, Z5.ds⟩
          · obtain ⟨q0, q1, -, q9⟩ := blk2 Z5.ds.loc
            go_wp2_with fail
            have Z := Z5
            clear Z5
            go_region_held3 (fun w' => w'.cell? ⟨L, 0, none⟩ = some (.slice a ss.length c) ∧ w'.cell? ⟨L, 1, none⟩ = some (.slice a' ps.length c'))
              (first
                | with_reducible exact keepL Z.ds
                | with_reducible exact keepL Z.ds.drew
                | with_reducible exact keepB5 Z _ _ _ _ _)
              (first
                | (go_at_call 31
                   refine (bN (B := B) (p := p) (n := n) (v := v) (w0 := w) (L := L) (Y := Y) (ss := ss) (ps := ps) (a := a) (c := c) (a' := a') (c' := c') (o := o) (f := f) (d := d) (f' := f') (d' := d') _ ?hE (by omega) (by omega)).mono ?_
                   case hE => first | with_reducible exact Z | with_reducible exact Z.drew
                   rintro e xn ⟨i, rfl, hi, Z⟩)
                | (go_at_call 30
                   refine (bBytes (B := B) (p := p) (n := n) (v := v) (w0 := w) (L := L) (Y := Y) (ss := ss) (ps := ps) (a := a) (c := c) (a' := a') (c' := c') (o := o) (f := f) (d := d) (f' := f') (d' := d') _ Z (by omega)).mono ?_
                   rintro e xb ⟨t, rfl, ht, Z⟩)
                | (go_at_call 14
                   refine (bPut (B := B) (p := p) (n := n) (v := v) (w0 := w) (L := L) (Y := Y) (ss := ss) (ps := ps) (a := a) (c := c) (a' := a') (c' := c') (o := o) (f := f) (d := d) (f' := f') (d' := d') _ _ Z HR (by omega) (by omega) (by omega)).mono ?_
                   rintro e x4 ⟨o2, f2, d2, f2', d2', rfl, o4, hr4, Z⟩
                   obtain ⟨y0, y1, y2, y3, y4, yf, y9⟩ := U4.blk5 Z.ys.loc))
            all_goals
              go_wp2_with fail
              go_meet
              case rel => exact Z.put o4 hr4
        case rest =>
          obtain ⟨o2, f2, d2, f2', d2', hY2, hr2, D2⟩ := hcut
          clear Z5
          obtain ⟨y0, y1, y2, y3, y4, yf, y9⟩ := U4.blk5 hY2.loc
          go_upto_if 37 with fail
          go_cut [] (fun wx => RDS B p n v w L wx)
          case first =>
            obtain ⟨q0, q1, qf, q9⟩ := blk2 D2.loc
            by_cases hk0 : o2.k = 0
            · have hk0' : (o2.k == 0) = true := by simpa using hk0
              have HN : Hid (RDS B p n v w L ((wc.setCell ⟨L, 0, none⟩ (.slice f2 o2.ss.length d2)).setCell ⟨L, 1, none⟩ (.slice f2' o2.ps.length d2'))) := ⟨o2.ss, o2.ps, f2, d2, f2', d2', hr2 hk0, DS.takeA D2 hY2⟩
              clear hk0
              go_wp2
              go_meet
              case rel => exact HN.out
            · have hk0' : (o2.k == 0) = false := by simpa using hk0
              have HN : Hid (RDS B p n v w L wc) := ⟨ss, ps, a, c, a', c', HR, D2⟩
              clear hk0
              go_wp2
              go_meet
              case rel => exact HN.out
          case rest =>
            clear y0 y1 y2 y3 y4 yf y9 hY2 hr2 D2 HR
            obtain ⟨ss, ps, a, c, a', c', HR, D⟩ := hcut
            go_wp2_with fail
            refine (dOne 5 D (by omega) (by omega)).mono ?_
            rintro e w7 ⟨bo, rfl, D7⟩
            clear D
            cases bo
            · have HN : Hid (RelA B p n v w L (.int .i64 ((k : Int) - 1)) w7) := RelA.next k hlt hk ⟨ss, ps, a, c, a', c', HR, D7⟩
              clear D7
              go_wp2
              go_roundw
              case rel => exact HN.out
              case measure => simp [intOf]; omega
            · obtain ⟨q0, q1, -, q9⟩ := blk2 D7.loc
              go_wp2_with fail
              go_region_with
                (first
                  | (go_at_call 52
                     refine (dKeep (B := B) (p := p) (n := n) (v := v) (w0 := w) (L := L) (ss := ss) (ps := ps) (a := a) (c := c) (a' := a') (c' := c') ?hE).mono ?_
                     case hE => first | with_reducible exact D7 | with_reducible exact D7.drew
                     rintro e xk ⟨l, lf, lc, rfl, hl, hi, D7⟩
                     obtain ⟨v0, v1, vf, v9⟩ := blk2 D7.loc)
                  | (go_at_call 67
                     refine (dCrash (B := B) (p := p) (n := n) (v := v) (w0 := w) (L := L) (ss := ss) (ps := ps) (a := a) (c := c) (a' := a') (c' := c') D7 HR hl hi).mono ?_
                     rintro e x8 ⟨ss2, ps2, f3, d3, f3', d3', rfl, o8, HR8, D7⟩
                     obtain ⟨z0, z1, zf, z9⟩ := blk2 D7.loc))
              all_goals
                have HN : Hid (RelA B p n v w L (.int .i64 ((k : Int) - 1)) ((x8.setCell ⟨L, 0, none⟩ (.slice f3 ss2.length d3)).setCell ⟨L, 1, none⟩ (.slice f3' ps2.length d3'))) := RelA.next k hlt hk ⟨ss2, ps2, f3, d3, f3', d3', HR8, DS.store D7 o8⟩
                clear D7 o8
                go_wp2
                go_roundw
                case rel => exact HN.out
                case measure => simp [intOf]; omega
    · obtain rfl : k = 0 := by omega
      have F0 : FD B p n v w L ss ps a c a' c' wr := FD.of D HR
      have hss : 1 ≤ ss.length := ((right_iff ss ps).1 HR).1
      have hs64 : ∀ s ∈ ss, s.size ≤ 64 := ((right_iff ss ps).1 HR).2.2.2.1
      clear D hk hlt
      go_wp2_with fail
      refine (drawOne 12 F0.ds.dr (by omega) (by omega)).mono ?_
      rintro e w5 ⟨bo, rfl, h5, t5⟩
      have F5 := F0.drawn h5 t5
      clear F0 h5 t5
      go_upto_if 47 with fail
      go_cut [] (fun wx => RF B p n v w L wx)
      case first =>
        cases bo
        · go_wp2_with fail
          go_meet
          case rel => exact F5.rf
        · obtain ⟨g, rfl, -, hBg, hgz⟩ := form_strs F5.ds.own.1 (by omega)
          obtain ⟨q0, q1, qf, q9⟩ := blk2 F5.ds.loc
          go_wp2_with fail
          refine (fN (ss.length : Int) F5 (by omega) (by have := F5.l1; omega)).mono ?_
          rintro e w6 ⟨r, rfl, hr, F6⟩
          have hr' : r < ss.length := by omega
          obtain ⟨q0', q1', qf', q9'⟩ := blk2 F6.ds.loc
          clear F5 q0 q1 qf q9
          obtain ⟨t0, ht0⟩ : ∃ t, ss[r]? = some t := ⟨_, List.getElem?_eq_getElem hr'⟩
          have ht64 := hs64 t0 (List.mem_of_getElem? ht0)
          obtain ⟨c0, f0⟩ := sect_cell F6 ht0
          have HT0 : Hid (ss[r]? = some t0) := ht0
          clear ht0
          go_wp2_with fail
          go_region_with
            (first
              | (go_at_call 68
                 refine (fSpoil (B := B) (p := p) (n := n) (v := v) (w0 := w) (L := L) (ss := ss) (ps := ps) (a := some ⟨g, 0, none⟩) (c := c) (a' := a') (c' := c') t0 ?hE (by omega)).mono ?_
                 case hE => first | with_reducible exact F6 | with_reducible exact F6.drew
                 rintro e w8 ⟨u, rfl, hu, F6⟩
                 obtain ⟨c1, f1⟩ := sect_cell F6 HT0.out
                 obtain ⟨t0', t1', tf', t9'⟩ := blk2 F6.ds.loc))
          all_goals
            have F9 := FD.setAt r u F6 (by unfold maxLen; omega)
            have hs9 : (ss.set r u)[r]? = some u := List.getElem?_set_self hr'
            have hr9 : r < (ss.set r u).length := by rw [List.length_set]; exact hr'
            obtain ⟨W9, hW9⟩ : ∃ W9, w8.setCell ⟨g, r, none⟩ (.string u) = W9 := ⟨_, rfl⟩
            rw [hW9] at F9 ⊢
            generalize ss.set r u = s9 at *
            obtain ⟨c9, f9⟩ := sect_cell F9 hs9
            obtain ⟨b0, b1, bf, b9⟩ := blk2 F9.ds.loc
            clear hW9 F6 c1 f1 t0' t1' tf' t9' c0 f0 q0' q1' qf' q9' HT0 hs9
            by_cases h64 : 64 < u.size
            · have h64' : (64 : Int) < (u.size : Int) := by omega
              have F10 : Hid (RF B p n v w L (W9.drew.setCell ⟨g, r, none⟩ (.string (u.extract 0 64)))) := (FD.setAt r (u.extract 0 64) F9.drew (by unfold maxLen; rw [ByteArray.size_extract]; omega)).rf
              clear F9
              go_wp2_with fail
              go_region
              all_goals
                go_wp2_with fail
                go_meet
                case rel => exact F10.out
            · have h64' : ¬ (64 : Int) < (u.size : Int) := by omega
              have F10 : Hid (RF B p n v w L W9) := F9.rf
              clear F9
              go_wp2_with fail
              go_meet
              case rel => exact F10.out
      case rest =>
        obtain ⟨ss, ps, a, c, a', c', F⟩ := hcut
        go_wp2_with fail
        refine (drawOne 20 F.ds.dr (by omega) (by omega)).mono ?_
        rintro e w6 ⟨b2, rfl, h6, t6⟩
        have F6 := F.drawn h6 t6
        clear F h6 t6
        cases b2
        · have HF : Hid (Drawn B p n v w (.returned (.agg #[.slice a ss.length c, .slice a' ps.length c'])) ((w6.setCell ⟨w.heap.size, 0, none⟩ (.slice a ss.length c)).setCell ⟨w.heap.size, 1, none⟩ (.slice a' ps.length c'))) := F6.told
          obtain ⟨q0, q1, qf, q9⟩ := blk2 F6.ds.loc
          obtain ⟨r0, r1, rf, r9⟩ := blk2 F6.ds.res
          clear F6
          go_wp2
          exact bodyPost_ret (v := .agg #[.slice a ss.length c, .slice a' ps.length c']) (by simp [results, Tryz.results29, go_sem, r0, r1]) rfl HF.out
        · go_wp2_with fail
          refine (l03Disk_any B p n v w6 F6.ds.dr).mono ?_
          rintro e w7 ⟨ss7, ps7, a7, c7, a7', c7', rfl, o7, l1, l2, z1, z2, d7, t7⟩
          obtain ⟨r0, r1, rf, r9⟩ := blk2 (carryP F6.ds.res t7 (by have := F6.ds.plt; omega))
          have HF : Hid (Drawn B p n v w (.returned (.agg #[.slice a7 ss7.length c7, .slice a7' ps7.length c7'])) ((w7.setCell ⟨w.heap.size, 0, none⟩ (.slice a7 ss7.length c7)).setCell ⟨w.heap.size, 1, none⟩ (.slice a7' ps7.length c7'))) := by
            have ht := D7.set2_wrote w7 w.heap.size (.slice a7 ss7.length c7) (.slice a7' ps7.length c7')
            have hp := F6.ds.plt
            have hlt := lt_some F6.ds.res
            have hw := F6.ds.wr.trans t7
            exact ⟨ss7, ps7, a7, c7, a7', c7', rfl, (keep_blocks o7 fun g hg => ht.block g (o7.rows g hg).2 (fun e => by have := (o7.rows g hg).1; omega)).mono (by omega), l1, l2, z1, z2, d7.wrote ht (fun g e => by omega), ⟨ht.os.trans hw.os, ht.tape.trans hw.tape, ht.output.trans hw.output, Nat.le_trans hw.size ht.size, fun k hk hs => (ht.block k (Nat.lt_of_lt_of_le hk hw.size) (by omega)).trans (hw.block k hk hs)⟩⟩
          clear F6 o7 z1 z2 d7 t7
          go_wp2
          exact bodyPost_ret (v := .agg #[.slice a7 ss7.length c7, .slice a7' ps7.length c7']) (by simp [results, Tryz.results29, go_sem, r0, r1]) rfl HF.out
end Go.Proofs.YtfiabbfdnmldjaaGreatDoor.F2
