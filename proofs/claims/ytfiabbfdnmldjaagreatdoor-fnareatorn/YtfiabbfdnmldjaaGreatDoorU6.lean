/-
  Formatting, as the program has it.
-/
import Derived.Test.YtfiabbfdnmldjaaGreatDoorU5
namespace Go.Proofs.YtfiabbfdnmldjaaGreatDoor.U6
open Go.RowKit
open Go.Proofs.YtfiabbfdnmldjaaGreatDoor.C0 Go.Proofs.YtfiabbfdnmldjaaGreatDoor.S0 Go.Proofs.YtfiabbfdnmldjaaGreatDoor.S1 Go.Proofs.YtfiabbfdnmldjaaGreatDoor.S2 Go.Proofs.YtfiabbfdnmldjaaGreatDoor.S3 Go.Proofs.YtfiabbfdnmldjaaGreatDoor.O1 Go.Proofs.YtfiabbfdnmldjaaGreatDoor.T0 Go.Proofs.YtfiabbfdnmldjaaGreatDoor.T1 Go.Proofs.YtfiabbfdnmldjaaGreatDoor.T2 Go.Proofs.YtfiabbfdnmldjaaGreatDoor.T3 Go.Proofs.YtfiabbfdnmldjaaGreatDoor.T4 Go.Proofs.YtfiabbfdnmldjaaGreatDoor.T5 Go.Proofs.YtfiabbfdnmldjaaGreatDoor.U1 Go.Proofs.YtfiabbfdnmldjaaGreatDoor.U2 Go.Proofs.YtfiabbfdnmldjaaGreatDoor.U3 Go.Proofs.YtfiabbfdnmldjaaGreatDoor.U4 Go.Proofs.YtfiabbfdnmldjaaGreatDoor.U5
open Go.Proofs.YtfiabbfdnmldjaaGreatDoor.Dk (Out ill writeR flushR rightB right_iff St doSt runS doSt_right write_ok flush_ok)
theorem fin_why {a1 a3 a5 a9 : Addr} {w w2 : World} {o : Out} {k : Int} {err : Value} {R : Nat} (ho : o = ill k) (he : IsErr a1 a3 a5 a9 err k) (B : Below w.heap.size w w2) (hR : w.heap.size ≤ R) (u u' : Value) :
    FTold a1 a3 a5 a9 w o (.returned (.tuple #[.agg #[.slice none 0 0, .slice none 0 0], err])) ((w2.setCell ⟨R, 0, none⟩ u).setCell ⟨R, 1, none⟩ u') := by
  subst ho
  exact ⟨none, 0, none, 0, _, rfl, ⟨World.ownsRow_nil _ _ _ _, World.ownsRow_nil _ _ _ _⟩, he, belW B (set2_wrote w2 R u u') (fun g h => by omega)⟩
theorem fin_told {a1 a3 a5 a9 : Addr} {w w2 : World} {o : Out} {err : Value} {R B : Nat} {a a' : Option Addr} {c c' : Nat} (he : IsErr a1 a3 a5 a9 err o.k) (hb : Below w.heap.size w w2) (ho : ODisk B w2 (.slice a o.ss.length c) (.slice a' o.ps.length c') o.ss o.ps) (hR : w.heap.size ≤ R) (hB : R < B) (u u' : Value) :
    FTold a1 a3 a5 a9 w o (.returned (.tuple #[.agg #[.slice a o.ss.length c, .slice a' o.ps.length c'], err])) ((w2.setCell ⟨R, 0, none⟩ u).setCell ⟨R, 1, none⟩ u') :=
  ⟨a, c, a', c', _, rfl, (ho.wrote (set2_wrote w2 R u u') (fun g e h => by have := (ho.rows g h).1; omega)).mono (by omega), he, belW hb (set2_wrote w2 R u u') (fun g h => by omega)⟩
theorem steps2 {w : World} {b c : Nat} {i : Int} {d : ByteArray} (h1 : w.heap[b]? = some (.cells #[.int .i64 i] 2)) (h2 : w.heap[c]? = some (.cells #[.string d] 9)) :
    U3.Steps (w.alloc (.cells #[.func (.func 104) #[] #[.pointer (some ⟨b, 0, none⟩), .pointer (some ⟨c, 0, none⟩)], .func (.func 81) #[] #[]] 114)) (.slice (some ⟨w.heap.size, 0, none⟩) 2 2) [.write i d, .flush] := by
  refine ⟨_, _, rfl, by simp, fun _ => ⟨w.heap.size, 0, rfl, by simp, fun j s hj => ?_⟩⟩
  have hk := heap_alloc_new w (.cells #[.func (.func 104) #[] #[.pointer (some ⟨b, 0, none⟩), .pointer (some ⟨c, 0, none⟩)], .func (.func 81) #[] #[]] 114)
  obtain ⟨x0, x1, -, -⟩ := blk2 hk
  match j, hj with
  | 0, hj => simp at hj; subst hj; exact ⟨_, x0, b, c, rfl, carryA h1 _, carryA h2 _⟩
  | 1, hj => simp at hj; subst hj; exact ⟨_, x1, rfl⟩
set_option maxRecDepth 100000 in
set_option maxHeartbeats 1600000 in
theorem formatted_any (a1 a3 a5 a9 : Addr) (vs vp : Value) (ss : List ByteArray) (ps : List Pend) (w : World) (hS : Sents w a1 a3 a5 a9) (hs : Strs w vs ss) (hp : Pends w vp ps) (hz : ∀ s ∈ ss, s.size ≤ maxLen) (hzp : ∀ p ∈ ps, p.2.size ≤ maxLen) :
    Calls Tryz.prog 38 #[.agg #[vs, vp]] w fun e w' => FTold a1 a3 a5 a9 w (formO ss ps) e w' := by
  obtain ⟨sa, sc, rfl⟩ : ∃ a c, vs = .slice a ss.length c := hs.len
  obtain ⟨k0, k1, b0, z0⟩ := T5.k_box w (.cells #[.slice sa ss.length sc, vp] 26) (.cells #[.slice none 0 0, .slice none 0 0] 26)
  cases hR : rightB ss ps
  · have hO : formO ss ps = ill 1 := by unfold formO; rw [if_pos hR]
    rw [hO]
    clear hO
    go_enter Tryz.func38, Tryz.ntmps38
    go_wp2_with fail
    refine (right_impl _ _ ss ps _ (hs.below b0) (hp.below b0) hz hzp).mono ?_
    rintro e w1 ⟨rfl, hb1⟩
    have B1 := bel2 b0 hb1
    have c1 := (hS.below B1).c1
    have c1' : ∀ u, (w1.setCell ⟨w.heap.size + 1, 0, none⟩ u).cell? ⟨0, 0, none⟩ = some (sent a1) := fun u => by rw [World.cell?_of_block (w := w1) (Below.heap_setCell _ _ _ _ (by have := lt_cell hS.c1; show 0 ≠ w.heap.size + 1; omega))]; exact c1
    obtain ⟨x0, x1, xf, x9⟩ := blk2 (carry k1 hb1)
    obtain ⟨q0, q1, -, -⟩ := blk2 (carry k0 hb1)
    clear k0 k1 hb1 b0
    rw [hR]
    have HF : Hid (∀ u u', FTold a1 a3 a5 a9 w (ill 1) (.returned (.tuple #[.agg #[.slice none 0 0, .slice none 0 0], sent a1])) ((w1.drew.setCell ⟨w.heap.size + 1, 0, none⟩ u).setCell ⟨w.heap.size + 1, 1, none⟩ u')) := fin_why rfl .form B1.drew (by omega)
    go_wp2
    go_region
    all_goals
      go_wp2
      exact bodyPost_ret (v := .tuple #[.agg #[.slice none 0 0, .slice none 0 0], sent a1]) (by simp [results, Tryz.results38, go_sem, x0, x1]) rfl (HF.out _ _)
  obtain ⟨n1, n2, n3, -, -⟩ := (right_iff ss ps).1 hR
  by_cases h3 : ss.length < 3
  · have hO : formO ss ps = ill 9 := by unfold formO; rw [if_neg (by rw [hR]; simp), if_pos h3]
    rw [hO]
    clear hO
    have h3' : (ss.length : Int) < 3 := by omega
    go_enter Tryz.func38, Tryz.ntmps38
    go_wp2_with fail
    refine (right_impl _ _ ss ps _ (hs.below b0) (hp.below b0) hz hzp).mono ?_
    rintro e w1 ⟨rfl, hb1⟩
    have B1 := bel2 b0 hb1
    have c9 := (hS.below B1).c9
    have c9' : ∀ u, (w1.setCell ⟨w.heap.size + 1, 0, none⟩ u).cell? ⟨3, 0, none⟩ = some (sent a9) := fun u => by rw [World.cell?_of_block (w := w1) (Below.heap_setCell _ _ _ _ (by have := lt_cell hS.c9; show 3 ≠ w.heap.size + 1; omega))]; exact c9
    obtain ⟨x0, x1, xf, x9⟩ := blk2 (carry k1 hb1)
    obtain ⟨q0, q1, -, -⟩ := blk2 (carry k0 hb1)
    clear k0 k1 hb1 b0
    rw [hR]
    have HF : Hid (∀ u u', FTold a1 a3 a5 a9 w (ill 9) (.returned (.tuple #[.agg #[.slice none 0 0, .slice none 0 0], sent a9])) ((w1.drew.setCell ⟨w.heap.size + 1, 0, none⟩ u).setCell ⟨w.heap.size + 1, 1, none⟩ u')) := fin_why rfl .room B1.drew (by omega)
    go_wp2
    go_region
    all_goals
      go_wp2
      exact bodyPost_ret (v := .tuple #[.agg #[.slice none 0 0, .slice none 0 0], sent a9]) (by simp [results, Tryz.results38, go_sem, x0, x1]) rfl (HF.out _ _)
  have h3' : ¬ (ss.length : Int) < 3 := by omega
  have hO : formO ss ps = runS ss ps [.write 0 (headB 0 0 0), .flush] := by unfold formO; rw [if_neg (by rw [hR]; simp), if_neg h3]
  have hhs := head_size 0 0 0
  have haft : ∀ W v, Strs W (.slice sa ss.length sc) ss → Pends W vp ps → U3.Steps W v [.write 0 (headB 0 0 0), .flush] → Calls Tryz.prog 78 #[.agg #[.slice sa ss.length sc, vp], v] W fun e w' => FTold a1 a3 a5 a9 W (formO ss ps) e w' := fun W v h1 h2 h3 => by
    rw [hO]
    refine after_any a1 a3 a5 a9 _ _ v ss ps _ W h1 h2 hR h3 (fun s hs => ?_)
    simp at hs
    rcases hs with rfl | rfl
    · show (headB 0 0 0).size ≤ maxLen; unfold maxLen; omega
    · trivial
  clear hO
  generalize formO ss ps = o at haft ⊢
  go_enter Tryz.func38, Tryz.ntmps38
  go_wp2_with fail
  refine (right_impl _ _ ss ps _ (hs.below b0) (hp.below b0) hz hzp).mono ?_
  rintro e w1 ⟨rfl, hb1⟩
  have B1 := bel2 b0 hb1
  have k01 := carry k0 hb1
  have k11 := carry k1 hb1
  obtain ⟨q0, q1, -, -⟩ := blk2 k01
  clear k0 k1 hb1 b0
  rw [hR]
  go_wp2_with fail
  go_region_held3 (fun w' => w'.cell? ⟨w.heap.size, 0, none⟩ = some (.slice sa ss.length sc) ∧ w'.cell? ⟨w.heap.size, 1, none⟩ = some vp)
    (first
      | (with_reducible exact keep2h k01 BN)
      | (with_reducible exact keep2h k01 (bel2 BN (albel _ _)))
      | (with_reducible exact keep2h k01 (Below.refl _ _).drew)
      | go_keep)
    (first
      | (go_at_call 80; refine (head_impl 0 0 0 _ ok0 ok0 ok0).mono ?_; rintro e wn ⟨rfl, hbn⟩; have BN : Below w1.heap.size w1 wn := undrew hbn)
      | (go_at_call 79; refine (writing_any 0 (headB 0 0 0) _).mono ?_; rintro e wn ⟨⟨fv, rfl, hst, hone⟩, hbn⟩; obtain ⟨gb, gc, rfl, kb, kc⟩ := hst; have BN : Below w1.heap.size w1 wn := bel2 BN hbn)
      | (go_at_call 78; refine (haft _ _ (hs.below (bel2 B1 (bel2 BN (albel _ _)))) (hp.below (bel2 B1 (bel2 BN (albel _ _)))) (steps2 kb kc)).mono ?_; rintro e wn ⟨fa, m, fa', m', err, rfl, hoz, herr, hbn⟩; have ZB : Hid (_ < _) := lt_some (carry k11 BN); have BN : Below w1.heap.size w1 wn := bel2 (bel2 BN (albel _ _)) hbn; obtain ⟨x0, x1, xf, x9⟩ := blk2 (carry k11 BN)))
  have HF : Hid (∀ u u', FTold a1 a3 a5 a9 w o (.returned (.tuple #[.agg #[.slice fa o.ss.length m, .slice fa' o.ps.length m'], err])) ((wn.setCell ⟨w.heap.size + 1, 0, none⟩ u).setCell ⟨w.heap.size + 1, 1, none⟩ u')) := fin_told herr (bel2 B1 BN) hoz (by omega) (by rw [asz]; have := ZB.out; omega)
  clear hbn hoz ZB
  go_wp2
  exact bodyPost_ret (v := .tuple #[.agg #[.slice fa o.ss.length m, .slice fa' o.ps.length m'], err]) (by simp [results, Tryz.results38, go_sem, x0, x1]) rfl (HF.out _ _)
theorem keep5 {W wn : World} {g R : Nat} {a b : Value} {T : TypeId} (k : W.heap[g]? = some (.cells #[a, b] T)) (h : Below W.heap.size W wn) (hne : Hid (g ≠ R)) (p q r s u : Value) : (set5 wn R p q r s u).cell? ⟨g, 0, none⟩ = some a ∧ (set5 wn R p q r s u).cell? ⟨g, 1, none⟩ = some b := by
  have := blk2 (carryW (carry k h) (set5_wrote wn R p q r s u) hne.out)
  exact ⟨this.1, this.2.1⟩
theorem keepA {W w' : World} {g : Nat} {a b : Value} {T : TypeId} (k : W.heap[g]? = some (.cells #[a, b] T)) (h : Below W.heap.size W w') : w'.cell? ⟨g, 0, none⟩ = some a ∧ w'.cell? ⟨g, 1, none⟩ = some b := keep2h k h
set_option maxRecDepth 100000 in
set_option maxHeartbeats 1600000 in
theorem format_impl (a1 a3 a5 a9 : Addr) (vs vp : Value) (ss : List ByteArray) (ps : List Pend) (w : World) (hS : Sents w a1 a3 a5 a9) (hs : Strs w vs ss) (hp : Pends w vp ps) (hz : ∀ s ∈ ss, s.size ≤ maxLen) (hzp : ∀ p ∈ ps, p.2.size ≤ maxLen) :
    Calls Tryz.prog 11 #[.agg #[vs, vp]] w fun e w' => AT w (formA ss ps) e w' := by
  obtain ⟨k0, k1, b0, z0⟩ := T5.k_box w (.cells #[vs, vp] 26) (.cells #[.slice none 0 0, .slice none 0 0, .string ⟨#[]⟩, .int .i64 0, .int .i64 0] 31)
  have hf : ∀ W, Sents W a1 a3 a5 a9 → Strs W vs ss → Pends W vp ps → Calls Tryz.prog 38 #[.agg #[vs, vp]] W fun e w' => FTold a1 a3 a5 a9 W (formO ss ps) e w' := fun W h h1 h2 => formatted_any a1 a3 a5 a9 vs vp ss ps W h h1 h2 hz hzp
  unfold formA
  generalize formO ss ps = o at hf ⊢
  go_enter Tryz.func11, Tryz.ntmps11
  go_wp2_with fail
  refine (hf _ (hS.below b0) (hs.below b0) (hp.below b0)).mono ?_
  rintro e w1 ⟨fa, m, fa', m', err, rfl, ho1, herr, hb1⟩
  rw [z0] at ho1
  have B1 := bel2 b0 hb1
  have HNE : Hid (w1.heap.size ≠ w.heap.size + 1) := by have := hb1.size; rw [z0] at this; exact fun e => by omega
  have k2 := carryA (carry k1 hb1) (.cells #[.slice fa o.ss.length m, .slice fa' o.ps.length m'] 26)
  have kL := heap_alloc_new w1 (.cells #[.slice fa o.ss.length m, .slice fa' o.ps.length m'] 26)
  have ho2 := ho1.below (albel w1 (.cells #[.slice fa o.ss.length m, .slice fa' o.ps.length m'] 26))
  have B2 := bel2 B1 (albel w1 (.cells #[.slice fa o.ss.length m, .slice fa' o.ps.length m'] 26))
  go_wp2_with fail
  obtain ⟨W, hW⟩ : ∃ W, w1.alloc (.cells #[.slice fa o.ss.length m, .slice fa' o.ps.length m'] 26) = W := ⟨_, rfl⟩
  rw [hW] at k2 kL ho2 B2 ⊢
  clear hW k0 k1 ho1 B1 hb1
  obtain ⟨q0, q1, -, -⟩ := blk2 kL
  go_region_held3 (fun w' => w'.cell? ⟨w1.heap.size, 0, none⟩ = some (.slice fa o.ss.length m) ∧ w'.cell? ⟨w1.heap.size, 1, none⟩ = some (.slice fa' o.ps.length m'))
    (first
      | (with_reducible exact keepA kL BN)
      | (with_reducible exact keepA kL (Below.refl _ _).drew)
      | (with_reducible exact keep5 kL BN HNE _ _ _ _ _)
      | go_keep)
    (first
      | (go_at_call 35; refine (code_any a1 a3 a5 a9 _ _ _ ((hS.below B2).below ((Below.refl _ _).drew)) herr).mono ?_; rintro e wn ⟨rfl, hbn⟩; have BN : Below W.heap.size W wn := undrew hbn; obtain ⟨x0, x1, x2, x3, x4, xf, x9⟩ := blk5 (carry k2 BN)))
  have HF : Hid (∀ p q r s u, AT w ⟨o.ss, o.ps, ⟨#[]⟩, 0, o.k⟩ (.returned (.agg #[.slice fa o.ss.length m, .slice fa' o.ps.length m', .string ⟨#[]⟩, .int .i64 0, .int .i64 o.k])) (set5 wn (w.heap.size + 1) p q r s u)) := fin_area (bel2 B2 BN) (ho2.below BN) (by omega) (by omega)
  go_wp2
  exact bodyPost_ret (v := .agg #[.slice fa o.ss.length m, .slice fa' o.ps.length m', .string ⟨#[]⟩, .int .i64 0, .int .i64 o.k]) (by simp [results, Tryz.results11, go_sem, x0, x1, x2, x3, x4]) rfl (HF.out _ _ _ _ _)
end Go.Proofs.YtfiabbfdnmldjaaGreatDoor.U6
