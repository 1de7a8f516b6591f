/-
  Formatting, as the specification and as the program have it.
-/
import Derived.Test.YtfiabbfdnmldjaaGreatDoorPL
import Derived.Test.YtfiabbfdnmldjaaGreatDoorU3
namespace Go.Proofs.YtfiabbfdnmldjaaGreatDoor.U5
open Go.RowKit
open Go.Proofs.YtfiabbfdnmldjaaGreatDoor.C0 Go.Proofs.YtfiabbfdnmldjaaGreatDoor.S0 Go.Proofs.YtfiabbfdnmldjaaGreatDoor.S1 Go.Proofs.YtfiabbfdnmldjaaGreatDoor.S2 Go.Proofs.YtfiabbfdnmldjaaGreatDoor.S3 Go.Proofs.YtfiabbfdnmldjaaGreatDoor.O1 Go.Proofs.YtfiabbfdnmldjaaGreatDoor.T0 Go.Proofs.YtfiabbfdnmldjaaGreatDoor.T1 Go.Proofs.YtfiabbfdnmldjaaGreatDoor.T2 Go.Proofs.YtfiabbfdnmldjaaGreatDoor.T3 Go.Proofs.YtfiabbfdnmldjaaGreatDoor.T4 Go.Proofs.YtfiabbfdnmldjaaGreatDoor.T5 Go.Proofs.YtfiabbfdnmldjaaGreatDoor.U1 Go.Proofs.YtfiabbfdnmldjaaGreatDoor.U2 Go.Proofs.YtfiabbfdnmldjaaGreatDoor.U3 Go.Proofs.YtfiabbfdnmldjaaGreatDoor.U4
open Go.Proofs.YtfiabbfdnmldjaaGreatDoor.Dk (Out ill writeR flushR rightB right_iff St doSt runS doSt_right write_ok flush_ok)
/-- A head of no text, written and flushed. -/
def formO (ss : List ByteArray) (ps : List Pend) : Out :=
  if rightB ss ps = false then ill 1 else if ss.length < 3 then ill 9 else runS ss ps [.write 0 (headB 0 0 0), .flush]
abbrev formA (ss : List ByteArray) (ps : List Pend) : AOut := ⟨(formO ss ps).ss, (formO ss ps).ps, ⟨#[]⟩, 0, (formO ss ps).k⟩
theorem form_sizes (ss : List ByteArray) (ps : List Pend) : (formO ss ps).ss.length ≤ 64 ∧ (formO ss ps).ps.length ≤ 200 := by
  unfold formO
  split
  · simp [ill]
  · rename_i h
    split
    · simp [ill]
    · exact Dk.runS_sizes _ ss ps (by simpa using h)
theorem ok0 : ok64 0 := ⟨by omega, by omega⟩
theorem keep2h {W w' : World} {g : Nat} {a b : Value} {T : TypeId} (k : W.heap[g]? = some (.cells #[a, b] T)) (h : Below W.heap.size W w') : w'.cell? ⟨g, 0, none⟩ = some a ∧ w'.cell? ⟨g, 1, none⟩ = some b :=
  ⟨(blk2 (carry k h)).1, (blk2 (carry k h)).2.1⟩
/-- What a call told, laid in a block of its own. -/
def RO (W : World) (o : Out) (s : Value) (wx : World) : Prop :=
  ∃ Y f m f' m', s = .pointer (some ⟨Y, 0, none⟩) ∧ W.heap.size ≤ Y ∧ wx.heap[Y]? = some (.cells #[.slice f o.ss.length m, .slice f' o.ps.length m', .string o.d, .int .i64 o.k] 72) ∧ ODisk W.heap.size wx (.slice f o.ss.length m) (.slice f' o.ps.length m') o.ss o.ps ∧ Below W.heap.size W wx
theorem set4_wrote (w : World) (g : Nat) (a b c d : Value) : Wrote (fun k => k = g) w (set4 w g a b c d) :=
  ((((Wrote.refl (fun k => k = g) w).setCell (p := ⟨g, 0, none⟩) (.inr rfl) a).setCell (p := ⟨g, 1, none⟩) (.inr rfl) b).setCell (p := ⟨g, 2, none⟩) (.inr rfl) c).setCell (p := ⟨g, 3, none⟩) (.inr rfl) d
theorem set4_at {w : World} {g : Nat} {x y z u : Value} {T : TypeId} (h : w.heap[g]? = some (.cells #[x, y, z, u] T (0, 0))) (a b c d : Value) : (set4 w g a b c d).heap[g]? = some (.cells #[a, b, c, d] T (0, 0)) := by
  have h1 := heap_setCell_same w g 0 _ _ a h
  have h2 := heap_setCell_same _ g 1 _ _ b h1
  have h3 := heap_setCell_same _ g 2 _ _ c h2
  have h4 := heap_setCell_same _ g 3 _ _ d h3
  simpa using h4
theorem RO.fresh {W w3 : World} {o : Out} {f f' : Option Addr} {m m' B : Nat} (hB : Below W.heap.size W w3) (ho : ODisk B w3 (.slice f o.ss.length m) (.slice f' o.ps.length m') o.ss o.ps) (hl : W.heap.size ≤ B) :
    RO W o (.pointer (some ⟨w3.heap.size, 0, none⟩)) (w3.alloc (.cells #[.slice f o.ss.length m, .slice f' o.ps.length m', .string o.d, .int .i64 o.k] 72)) :=
  ⟨w3.heap.size, f, m, f', m', rfl, hB.size, heap_alloc_new _ _, (ho.mono hl).below (albel _ _), bel2 hB (albel _ _)⟩
theorem RO.laid {W w3 : World} {o : Out} {f f' : Option Addr} {m m' B Y : Nat} {x y z u : Value} (hY : w3.heap[Y]? = some (.cells #[x, y, z, u] 72)) (hl : W.heap.size ≤ Y) (hYB : Y < B) (hB : Below W.heap.size W w3) (ho : ODisk B w3 (.slice f o.ss.length m) (.slice f' o.ps.length m') o.ss o.ps) :
    RO W o (.pointer (some ⟨Y, 0, none⟩)) (set4 w3 Y (.slice f o.ss.length m) (.slice f' o.ps.length m') (.string o.d) (.int .i64 o.k)) :=
  ⟨Y, f, m, f', m', rfl, hl, set4_at hY _ _ _ _, (ho.wrote (set4_wrote w3 Y _ _ _ _) (fun g e h => by have := (ho.rows g h).1; omega)).mono (by omega), belW hB (set4_wrote w3 Y _ _ _ _) (fun g e => by omega)⟩
theorem form_yes {ss : List ByteArray} {ps : List Pend} {H : ByteArray} (h : (writeR ss ps 0 H).k = 0) :
    (⟨(runS ss ps [.write 0 H, .flush]).ss, (runS ss ps [.write 0 H, .flush]).ps, ⟨#[]⟩, 0, (runS ss ps [.write 0 H, .flush]).k⟩ : AOut) = ⟨(flushR (writeR ss ps 0 H).ss (writeR ss ps 0 H).ps).ss, (flushR (writeR ss ps 0 H).ss (writeR ss ps 0 H).ps).ps, ⟨#[]⟩, 0, (flushR (writeR ss ps 0 H).ss (writeR ss ps 0 H).ps).k⟩ := by
  have e1 : runS ss ps [.write 0 H, .flush] = runS (writeR ss ps 0 H).ss (writeR ss ps 0 H).ps [.flush] := by
    show (if (writeR ss ps 0 H).k = 0 then _ else _) = _
    rw [if_pos h]; rfl
  have hR := doSt_right (s := .write 0 H) (ss := ss) (ps := ps) h
  have hf : flushR (writeR ss ps 0 H).ss (writeR ss ps 0 H).ps = ⟨Dk.flushOf (writeR ss ps 0 H).ss (writeR ss ps 0 H).ps, [], ⟨#[]⟩, 0⟩ := by
    unfold flushR; rw [if_neg (by rw [show rightB (writeR ss ps 0 H).ss (writeR ss ps 0 H).ps = true from hR]; simp)]
  rw [e1]
  have e2 : runS (writeR ss ps 0 H).ss (writeR ss ps 0 H).ps [.flush] = ⟨Dk.flushOf (writeR ss ps 0 H).ss (writeR ss ps 0 H).ps, [], ⟨#[]⟩, 0⟩ := by
    show (if (flushR (writeR ss ps 0 H).ss (writeR ss ps 0 H).ps).k = 0 then _ else _) = _
    rw [if_pos (by rw [hf])]
    show (⟨(flushR (writeR ss ps 0 H).ss (writeR ss ps 0 H).ps).ss, (flushR (writeR ss ps 0 H).ss (writeR ss ps 0 H).ps).ps, ⟨#[]⟩, 0⟩ : Out) = _
    rw [hf]
  rw [e2, hf]
theorem form_no {ss : List ByteArray} {ps : List Pend} {H : ByteArray} (h : ¬ (writeR ss ps 0 H).k = 0) :
    (⟨(runS ss ps [.write 0 H, .flush]).ss, (runS ss ps [.write 0 H, .flush]).ps, ⟨#[]⟩, 0, (runS ss ps [.write 0 H, .flush]).k⟩ : AOut) = illA (writeR ss ps 0 H).k := by
  have e1 : runS ss ps [.write 0 H, .flush] = ill (writeR ss ps 0 H).k := by
    show (if (writeR ss ps 0 H).k = 0 then _ else _) = _
    rw [if_neg h]; rfl
  rw [e1]; rfl
set_option maxRecDepth 100000 in
set_option maxHeartbeats 1600000 in
theorem format_spec (vs vp : Value) (ss : List ByteArray) (ps : List Pend) (w : World) (hs : Strs w vs ss) (hp : Pends w vp ps) (hz : ∀ s ∈ ss, s.size ≤ maxLen) (hzp : ∀ p ∈ ps, p.2.size ≤ maxLen) :
    Calls Tryz.prog 15 #[.agg #[vs, vp]] w fun e w' => AT w (formA ss ps) e w' := by
  obtain ⟨sa, sc, rfl⟩ : ∃ a c, vs = .slice a ss.length c := hs.len
  obtain ⟨k0, k1, b0, z0⟩ := T5.k_box w (.cells #[.slice sa ss.length sc, vp] 26) (.cells #[.slice none 0 0, .slice none 0 0, .string ⟨#[]⟩, .int .i64 0, .int .i64 0] 31)
  cases hR : rightB ss ps
  · have hO : formA ss ps = illA 1 := by unfold formA formO; rw [if_pos hR]; rfl
    rw [hO]
    clear hO
    go_enter Tryz.func15, Tryz.ntmps15
    go_wp2_with fail
    refine (right_spec _ _ ss ps _ (hs.below b0) (hp.below b0) hz hzp).mono ?_
    rintro e w1 ⟨rfl, hb1⟩
    have B1 := bel2 b0 hb1
    have k11 := carry k1 hb1
    obtain ⟨q0, q1, -, -⟩ := blk2 (carry k0 hb1)
    clear k0 k1 hb1 b0
    rw [hR]
    go_wp2_with fail
    refine (U4.ill_spec 1 _).mono ?_
    rintro e wz ⟨rfl, hbz⟩
    obtain ⟨r0, r1, r2, r3, r4, rf, -⟩ := blk5 (carry k11 hbz)
    have HF : Hid (∀ p q r s u, AT w (illA 1) (.returned (.agg #[.slice none 0 0, .slice none 0 0, .string ⟨#[]⟩, .int .i64 0, .int .i64 1])) (set5 wz (w.heap.size + 1) p q r s u)) := fin_illA (bel2 B1 hbz) (by omega)
    go_wp2
    exact bodyPost_ret (v := .agg #[.slice none 0 0, .slice none 0 0, .string ⟨#[]⟩, .int .i64 0, .int .i64 1]) (by simp [results, Tryz.results15, go_sem, r0, r1, r2, r3, r4]) rfl (HF.out _ _ _ _ _)
  obtain ⟨n1, n2, n3, -, -⟩ := (right_iff ss ps).1 hR
  by_cases h3 : ss.length < 3
  · have hO : formA ss ps = illA 9 := by unfold formA formO; rw [if_neg (by rw [hR]; simp), if_pos h3]; rfl
    rw [hO]
    clear hO
    have h3' : (ss.length : Int) < 3 := by omega
    go_enter Tryz.func15, Tryz.ntmps15
    go_wp2_with fail
    refine (right_spec _ _ ss ps _ (hs.below b0) (hp.below b0) hz hzp).mono ?_
    rintro e w1 ⟨rfl, hb1⟩
    have B1 := bel2 b0 hb1
    have k11 := carry k1 hb1
    obtain ⟨q0, q1, -, -⟩ := blk2 (carry k0 hb1)
    clear k0 k1 hb1 b0
    rw [hR]
    go_wp2_with fail
    refine (U4.ill_spec 9 _).mono ?_
    rintro e wz ⟨rfl, hbz⟩
    obtain ⟨r0, r1, r2, r3, r4, rf, -⟩ := blk5 (carry k11 hbz)
    have HF : Hid (∀ p q r s u, AT w (illA 9) (.returned (.agg #[.slice none 0 0, .slice none 0 0, .string ⟨#[]⟩, .int .i64 0, .int .i64 9])) (set5 wz (w.heap.size + 1) p q r s u)) := fin_illA (bel2 B1 hbz) (by omega)
    go_wp2
    exact bodyPost_ret (v := .agg #[.slice none 0 0, .slice none 0 0, .string ⟨#[]⟩, .int .i64 0, .int .i64 9]) (by simp [results, Tryz.results15, go_sem, r0, r1, r2, r3, r4]) rfl (HF.out _ _ _ _ _)
  have h3' : ¬ (ss.length : Int) < 3 := by omega
  have hO : formO ss ps = runS ss ps [.write 0 (headB 0 0 0), .flush] := by unfold formO; rw [if_neg (by rw [hR]; simp), if_neg h3]
  have hhs := head_size 0 0 0
  have hw : ∀ W, Strs W (.slice sa ss.length sc) ss → Pends W vp ps → Calls Tryz.prog 47 #[.agg #[.slice sa ss.length sc, vp], .int .i64 0, .string (headB 0 0 0)] W fun e w' => OT W (writeR ss ps 0 (headB 0 0 0)) e w' := fun W h1 h2 => TA.write_spec _ _ ss ps 0 _ W h1 h2 hz hzp (by omega) (by omega) (by unfold maxLen; omega)
  have hyes : Hid ((writeR ss ps 0 (headB 0 0 0)).k = 0 → rightB (writeR ss ps 0 (headB 0 0 0)).ss (writeR ss ps 0 (headB 0 0 0)).ps = true ∧ formA ss ps = ⟨(flushR (writeR ss ps 0 (headB 0 0 0)).ss (writeR ss ps 0 (headB 0 0 0)).ps).ss, (flushR (writeR ss ps 0 (headB 0 0 0)).ss (writeR ss ps 0 (headB 0 0 0)).ps).ps, ⟨#[]⟩, 0, (flushR (writeR ss ps 0 (headB 0 0 0)).ss (writeR ss ps 0 (headB 0 0 0)).ps).k⟩) := fun h => ⟨doSt_right (s := .write 0 (headB 0 0 0)) h, by unfold formA; rw [hO]; exact form_yes h⟩
  have hno : Hid (¬ (writeR ss ps 0 (headB 0 0 0)).k = 0 → formA ss ps = illA (writeR ss ps 0 (headB 0 0 0)).k) := fun h => by unfold formA; rw [hO]; exact form_no h
  clear hO
  generalize writeR ss ps 0 (headB 0 0 0) = o at hw hyes hno
  generalize formA ss ps = A at hyes hno ⊢
  go_enter Tryz.func15, Tryz.ntmps15
  go_wp2_with fail
  refine (right_spec _ _ ss ps _ (hs.below b0) (hp.below b0) hz hzp).mono ?_
  rintro e w1 ⟨rfl, hb1⟩
  have B1 := bel2 b0 hb1
  have k01 := carry k0 hb1
  have k11 := carry k1 hb1
  obtain ⟨q0, q1, -, -⟩ := blk2 k01
  clear k0 k1 hb1 b0
  rw [hR]
  go_wp2_with fail
  go_cut [3] (fun s wx => RO w1 o s wx)
  case first =>
    go_region_held3 (fun w' => w'.cell? ⟨w.heap.size, 0, none⟩ = some (.slice sa ss.length sc) ∧ w'.cell? ⟨w.heap.size, 1, none⟩ = some vp)
      (first
        | (with_reducible exact keep2h k01 BN)
        | (with_reducible exact keep2h k01 (bel2 BN (albel _ _)))
        | (with_reducible exact keep2h k01 (Below.refl _ _).drew)
        | (with_reducible exact keep2h k01 (albel _ _).drew)
        | (with_reducible exact keep2h k01 (set4_below BN YL _ _ _ _))
        | go_keep)
      (first
        | (go_at_call 48
           refine (head_spec 0 0 0 _ ok0 ok0 ok0).mono ?_
           rintro e wn ⟨rfl, hbn⟩
           have BN : Below w1.heap.size w1 wn := (by first | exact undrew hbn | exact bel2 (albel _ _) (undrew hbn))
           try (have KY := carry (heap_alloc_new w1 _) (undrew hbn)))
        | (go_at_call 47
           refine (hw _ ?_ ?_).mono ?_
           iterate 2 (first | exact hs.below (bel2 B1 BN) | exact hp.below (bel2 B1 BN) | exact hs.below (bel2 B1 (bel2 BN (albel _ _))) | exact hp.below (bel2 B1 (bel2 BN (albel _ _))))
           rintro e w3 ⟨fa, m, fa', m', rfl, ho3, hb3⟩
           first
             | (have YB := lt_some KY; have YL := Nat.le_refl w1.heap.size; have KY := carry KY hb3; obtain ⟨y0, y1, y2, y3, yf, y9⟩ := blk4 KY)
             | (have YB := lt_some (heap_alloc_new wn (.cells #[.slice none 0 0, .slice none 0 0, .string ⟨#[]⟩, .int .i64 0] 72)); have YL := BN.size; have KY := carry (heap_alloc_new wn _) hb3; obtain ⟨y0, y1, y2, y3, yf, y9⟩ := blk4 KY)
             | (have YL := BN.size)
           have BN : Below w1.heap.size w1 w3 := (by first | exact bel2 BN hb3 | exact bel2 (bel2 BN (albel _ _)) hb3)))
    all_goals
      go_wp2_with fail
      go_meet
      case rel => first | (with_reducible exact RO.laid KY YL YB BN ho3) | (with_reducible exact RO.fresh BN ho3 YL)
  case rest =>
    obtain ⟨Y, f, m, f', m', rfl, hY, kY, hoY, hBY⟩ := hcut
    have B2 := bel2 B1 hBY
    have k12 := carry k11 hBY
    obtain ⟨y0, y1, y2, y3, -, -⟩ := blk4 kY
    by_cases hk0 : o.k = 0
    · have hk0' : (o.k == 0) = true := by simpa using hk0
      obtain ⟨hR2, hA⟩ := hyes.out hk0
      obtain ⟨m1, m2, m3, m4, m5⟩ := (right_iff o.ss o.ps).1 hR2
      have hz2 : ∀ s ∈ o.ss, s.size ≤ maxLen := fun s h => by have := m4 s h; unfold maxLen; omega
      have hzp2 : ∀ p ∈ o.ps, p.2.size ≤ maxLen := fun p h => by have := (m5 p h).2.2; unfold maxLen; omega
      have hfl : ∀ W vs vp, Strs W vs o.ss → Pends W vp o.ps → Calls Tryz.prog 49 #[.agg #[vs, vp]] W fun e w' => OT W (flushR o.ss o.ps) e w' := fun W vs vp h1 h2 => TB.flush_spec vs vp o.ss o.ps W h1 h2 hz2 hzp2
      have HA : Hid (A = ⟨(flushR o.ss o.ps).ss, (flushR o.ss o.ps).ps, ⟨#[]⟩, 0, (flushR o.ss o.ps).k⟩) := hA
      generalize flushR o.ss o.ps = o2 at hfl HA
      clear hk0 hyes hno hR2 hA m4 m5 hz2 hzp2
      go_wp2_with fail
      refine (hfl _ _ _ hoY.1.strs hoY.2.pends).mono ?_
      rintro e w4 ⟨g, d, g', d', rfl, ho4, hb4⟩
      have z4 : Hid (w.heap.size + 1 < wc.heap.size) := lt_some k12
      obtain ⟨r0, r1, r2, r3, r4, rf, r9⟩ := blk5 (carry k12 hb4)
      have HY : ∀ X, Hid (_ ∧ _) := fun X => set5_read (carry k12 hb4) (.slice g o2.ss.length d) (.slice g' o2.ps.length d') (.string ⟨#[]⟩) (.int .i64 0) (.int .i64 o2.k) X
      have HF : ∀ X, Hid (∀ p q r s u, AT w A (.returned (.agg #[.slice g o2.ss.length d, .slice g' o2.ps.length d', .string ⟨#[]⟩, .int .i64 0, .int .i64 o2.k])) ((set5 w4 (w.heap.size + 1) p q r s u).alloc X)) := fun X p q r s u => by rw [HA.out]; exact atold_alloc (fin_area (bel2 B2 hb4) ho4 (by omega) z4.out p q r s u) X
      go_wp2
      exact bodyPost_ret (v := .agg #[.slice g o2.ss.length d, .slice g' o2.ps.length d', .string ⟨#[]⟩, .int .i64 0, .int .i64 o2.k]) (by simp [results, Tryz.results15, go_sem, (HY _).out.1, (HY _).out.2.1, (HY _).out.2.2.1, (HY _).out.2.2.2.1, (HY _).out.2.2.2.2]) rfl ((HF _).out _ _ _ _ _)
    · have hk0' : (o.k == 0) = false := by simpa using hk0
      have HA : Hid (A = illA o.k) := hno.out hk0
      clear hk0 hyes hno
      go_wp2_with fail
      refine (U4.ill_spec o.k _).mono ?_
      rintro e wz ⟨rfl, hbz⟩
      obtain ⟨r0, r1, r2, r3, r4, rf, -⟩ := blk5 (carry k12 hbz)
      have HF : Hid (∀ p q r s u, AT w A (.returned (.agg #[.slice none 0 0, .slice none 0 0, .string ⟨#[]⟩, .int .i64 0, .int .i64 o.k])) (set5 wz (w.heap.size + 1) p q r s u)) := fun p q r s u => by rw [HA.out]; exact fin_illA (bel2 B2 hbz) (by omega) p q r s u
      go_wp2
      exact bodyPost_ret (v := .agg #[.slice none 0 0, .slice none 0 0, .string ⟨#[]⟩, .int .i64 0, .int .i64 o.k]) (by simp [results, Tryz.results15, go_sem, r0, r1, r2, r3, r4]) rfl (HF.out _ _ _ _ _)
end Go.Proofs.YtfiabbfdnmldjaaGreatDoor.U5
