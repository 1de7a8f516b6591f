/-
  The program's AreaRead, whatever its reading of a side answers as it should.
-/
import Derived.Test.YtfiabbfdnmldjaaGreatDoorV3
namespace Go.Proofs.YtfiabbfdnmldjaaGreatDoor.V4
open Go.RowKit
open Go.Proofs.YtfiabbfdnmldjaaGreatDoor.C0 Go.Proofs.YtfiabbfdnmldjaaGreatDoor.S0 Go.Proofs.YtfiabbfdnmldjaaGreatDoor.S1 Go.Proofs.YtfiabbfdnmldjaaGreatDoor.S3 Go.Proofs.YtfiabbfdnmldjaaGreatDoor.O1 Go.Proofs.YtfiabbfdnmldjaaGreatDoor.T0 Go.Proofs.YtfiabbfdnmldjaaGreatDoor.T1 Go.Proofs.YtfiabbfdnmldjaaGreatDoor.T2 Go.Proofs.YtfiabbfdnmldjaaGreatDoor.T4 Go.Proofs.YtfiabbfdnmldjaaGreatDoor.T5 Go.Proofs.YtfiabbfdnmldjaaGreatDoor.U0 Go.Proofs.YtfiabbfdnmldjaaGreatDoor.U1 Go.Proofs.YtfiabbfdnmldjaaGreatDoor.U2 Go.Proofs.YtfiabbfdnmldjaaGreatDoor.U4 Go.Proofs.YtfiabbfdnmldjaaGreatDoor.U5 Go.Proofs.YtfiabbfdnmldjaaGreatDoor.U8 Go.Proofs.YtfiabbfdnmldjaaGreatDoor.U9 Go.Proofs.YtfiabbfdnmldjaaGreatDoor.V0 Go.Proofs.YtfiabbfdnmldjaaGreatDoor.V2 Go.Proofs.YtfiabbfdnmldjaaGreatDoor.V3
open Go.Proofs.YtfiabbfdnmldjaaGreatDoor.Dk (rightB right_iff readR sect want gath SideOk)
theorem readA_eq (ss : List ByteArray) (ps : List Pend) : readA ss ps = if codeD ss ps = 0 then ⟨ss, ps, textD ss ps, (seenD ss ps).1, 0⟩ else illA (codeD ss ps) := by
  have hd : seenR (zeroth ss ps) (halfN ss.length * 64) = seenD ss ps := rfl
  unfold readA codeD
  rw [hd]
  by_cases h1 : rightB ss ps = false
  · rw [if_pos h1, if_pos h1, if_neg (by decide)]
  · rw [if_neg h1, if_neg h1]
    by_cases h2 : (seenD ss ps).2.2.2 = 0
    · rw [if_pos h2, if_pos h2]
      by_cases h3 : SideOk ss ps (firstN ss.length (seenD ss ps).2.1.toNat) (seenD ss ps).2.2.1.toNat
      · rw [if_pos h3, if_pos h3, if_pos rfl]
      · rw [if_neg h3, if_neg h3, if_neg (by decide)]
    · rw [if_neg h2, if_neg h2, if_neg h2]
theorem code_right {ss : List ByteArray} {ps : List Pend} (h : codeD ss ps = 0) : rightB ss ps = true := by
  unfold codeD at h
  by_cases h1 : rightB ss ps = false
  · rw [if_pos h1] at h; cases h
  · simpa using h1
theorem err_nil {a1 a3 a5 a9 : Addr} {v : Value} (h : IsErr a1 a3 a5 a9 v 0) : v = .nilIface := by
  rcases h with ⟨e, _⟩ | ⟨_, h⟩ | ⟨_, h⟩ | ⟨_, h⟩ | ⟨_, h⟩ | ⟨h, _⟩
  · exact e
  all_goals exact absurd h (by decide)
theorem err_some {a1 a3 a5 a9 : Addr} {v : Value} {k : Int} (h : IsErr a1 a3 a5 a9 v k) (hk : ¬ k = 0) : ∃ T u, v = .iface T u := by
  rcases h with ⟨_, e⟩ | ⟨e, _⟩ | ⟨e, _⟩ | ⟨e, _⟩ | ⟨e, _⟩ | ⟨_, e⟩
  · exact absurd e hk
  all_goals exact ⟨_, _, e⟩
theorem keepG {W w' : World} {g h : Nat} {a b c d f : Value} {T U : TypeId} (k : W.heap[g]? = some (.cells #[a, b] T)) (l : W.heap[h]? = some (.cells #[c, d, f] U)) (hb : Below W.heap.size W w') : w'.cell? ⟨g, 0, none⟩ = some a ∧ w'.cell? ⟨g, 1, none⟩ = some b ∧ w'.cell? ⟨h, 0, none⟩ = some c :=
  ⟨(blk2 (carry k hb)).1, (blk2 (carry k hb)).2.1, (blk3 (carry l hb)).1⟩
theorem keepG5 {W wn : World} {g h R : Nat} {a b c d f : Value} {T U : TypeId} (k : W.heap[g]? = some (.cells #[a, b] T)) (l : W.heap[h]? = some (.cells #[c, d, f] U)) (hb : Below W.heap.size W wn) (hne : Hid (g ≠ R ∧ h ≠ R)) (p q r s u : Value) :
    (set5 wn R p q r s u).cell? ⟨g, 0, none⟩ = some a ∧ (set5 wn R p q r s u).cell? ⟨g, 1, none⟩ = some b ∧ (set5 wn R p q r s u).cell? ⟨h, 0, none⟩ = some c := by
  have h1 := blk2 (carryW (carry k hb) (set5_wrote wn R p q r s u) hne.out.1)
  have h2 := blk3 (carryW (carry l hb) (set5_wrote wn R p q r s u) hne.out.2)
  exact ⟨h1.1, h1.2.1, h2.1⟩
set_option maxRecDepth 100000 in
set_option maxHeartbeats 1600000 in
theorem read_impl (a1 a3 a5 a9 : Addr) (vs vp : Value) (ss : List ByteArray) (ps : List Pend) (w : World) (hS : Sents w a1 a3 a5 a9) (hs : Strs w vs ss) (hp : Pends w vp ps) (hz : ∀ s ∈ ss, s.size ≤ maxLen) (hzp : ∀ p ∈ ps, p.2.size ≤ maxLen) (hside : rightB ss ps = true → SideTold a1 a3 a5 a9 ss ps) :
    Calls Tryz.prog 9 #[.agg #[vs, vp]] w fun e w' => AT w (readA ss ps) e w' := by
  obtain ⟨k0, k1, b0, z0⟩ := T5.k_box w (.cells #[vs, vp] 26) (.cells #[.slice none 0 0, .slice none 0 0, .string ⟨#[]⟩, .int .i64 0, .int .i64 0] 31)
  have hra : ∀ W, Sents W a1 a3 a5 a9 → Strs W vs ss → Pends W vp ps → Calls Tryz.prog 34 #[.agg #[vs, vp]] W fun e w' => HTold a1 a3 a5 a9 W (seenD ss ps).1 (seenD ss ps).2.1 (seenD ss ps).2.2.1 (textD ss ps) (codeD ss ps) e w' := fun W h h1 h2 => readArea_any a1 a3 a5 a9 vs vp ss ps W h h1 h2 hz hzp hside
  have HA : Hid _ := readA_eq ss ps
  have HC : Hid _ := @code_right ss ps
  generalize readA ss ps = A at HA ⊢
  generalize textD ss ps = TX at HA hra
  generalize (seenD ss ps).2.2.1 = Z at hra
  generalize (seenD ss ps).2.1 = SD at hra
  generalize (seenD ss ps).1 = G at HA hra
  generalize codeD ss ps = K at HA HC hra
  go_enter Tryz.func9, Tryz.ntmps9
  go_wp2_with fail
  refine (hra _ (hS.below b0) (hs.below b0) (hp.below b0)).mono ?_
  rintro e w1 ⟨g', s', z', t', err, rfl, herr, heq, hb1⟩
  have B1 := bel2 b0 hb1
  have k01 := carryA (carry k0 hb1) (.cells #[.int .i64 g', .int .i64 s', .int .i64 z'] 57)
  have k11 := carryA (carry k1 hb1) (.cells #[.int .i64 g', .int .i64 s', .int .i64 z'] 57)
  have kH := heap_alloc_new w1 (.cells #[.int .i64 g', .int .i64 s', .int .i64 z'] 57)
  have B2 := bel2 B1 (albel w1 (.cells #[.int .i64 g', .int .i64 s', .int .i64 z'] 57))
  have ZZ : Hid (w.heap.size + 2 ≤ w1.heap.size) := by have := hb1.size; rw [z0] at this; exact this
  clear k0 k1 hb1
  by_cases hk : K = 0
  case neg =>
    have HAK : Hid (A = illA K) := by rw [HA.out, if_neg hk]; rfl
    obtain ⟨T, u, rfl⟩ := err_some herr hk
    clear hk HA HC heq
    go_wp2_with fail
    refine (code_any a1 a3 a5 a9 _ K _ (hS.below B2) herr).mono ?_
    rintro e w3 ⟨rfl, hb3⟩
    obtain ⟨r0, r1, r2, r3, r4, rf, -⟩ := blk5 (carry k11 hb3)
    have HF : Hid (∀ p q r s u, AT w A (.returned (.agg #[.slice none 0 0, .slice none 0 0, .string ⟨#[]⟩, .int .i64 0, .int .i64 K])) (set5 w3 (w.heap.size + 1) p q r s u)) := fun p q r s u => by rw [HAK.out]; exact fin_illA (bel2 B2 hb3) (by omega) p q r s u
    go_wp2
    exact bodyPost_ret (v := .agg #[.slice none 0 0, .slice none 0 0, .string ⟨#[]⟩, .int .i64 0, .int .i64 K]) (by simp [results, Tryz.results9, go_sem, r0, r1, r2, r3, r4]) rfl (HF.out _ _ _ _ _)
  subst hk
  obtain rfl := err_nil herr
  obtain ⟨hg1, -, -, ht1⟩ := heq rfl
  clear heq
  subst hg1 ht1
  obtain ⟨n1, n2, n3, -, -⟩ := (right_iff ss ps).1 (HC.out rfl)
  have HAK : Hid (A = ⟨ss, ps, t', g', 0⟩) := by rw [HA.out, if_pos rfl]; rfl
  clear HA HC herr
  go_wp2_with fail
  obtain ⟨W, hW⟩ : ∃ W, w1.alloc (.cells #[.int .i64 g', .int .i64 s', .int .i64 z'] 57) = W := ⟨_, rfl⟩
  rw [hW] at k01 k11 kH B2 ⊢
  clear hW
  obtain ⟨q0, q1, -, -⟩ := blk2 k01
  obtain ⟨y0, y1, y2, -, -⟩ := blk3 kH
  have zW := lt_some k11
  have HNE : Hid (w.heap.size ≠ w.heap.size + 1 ∧ w1.heap.size ≠ w.heap.size + 1) := ⟨by omega, by have := B1.size; have h2 := b0.size; rw [z0] at h2; have := ZZ.out; omega⟩
  go_region_held3 (fun w' => w'.cell? ⟨w.heap.size, 0, none⟩ = some vs ∧ w'.cell? ⟨w.heap.size, 1, none⟩ = some vp ∧ w'.cell? ⟨w1.heap.size, 0, none⟩ = some (.int .i64 g'))
    (first
      | (with_reducible exact keepG k01 kH BN)
      | (with_reducible exact keepG k01 kH (Below.refl _ _).drew)
      | (with_reducible exact keepG5 k01 kH BN HNE _ _ _ _ _)
      | go_keep)
    (first
      | (go_at_call 36; refine (copied_any _ _ ss ps _ (hs.below B2.drew) (hp.below B2.drew) (by omega) (by omega)).mono ?_; rintro e wn ⟨ra, rm, ra', rm', rfl, ho, hbn⟩; have BN : Below W.heap.size W wn := undrew hbn; obtain ⟨r0, r1, r2, r3, r4, rf, r9⟩ := blk5 (carry k11 BN)))
  have HF : Hid (∀ p q r s u, AT w A (.returned (.agg #[.slice ra ss.length rm, .slice ra' ps.length rm', .string t', .int .i64 g', .int .i64 0])) (set5 wn (w.heap.size + 1) p q r s u)) := fun p q r s u => by rw [HAK.out]; exact fin_area (bel2 B2 BN) ho (by omega) zW p q r s u
  clear ho HAK
  go_wp2
  exact bodyPost_ret (v := .agg #[.slice ra ss.length rm, .slice ra' ps.length rm', .string t', .int .i64 g', .int .i64 0]) (by simp [results, Tryz.results9, go_sem, r0, r1, r2, r3, r4]) rfl (HF.out _ _ _ _ _)
end Go.Proofs.YtfiabbfdnmldjaaGreatDoor.V4
