/-
  AreaPut, as the program has it.
-/
import Derived.Test.YtfiabbfdnmldjaaGreatDoorX1
namespace Go.Proofs.YtfiabbfdnmldjaaGreatDoor.X2
open Go.RowKit Go.IntWalk
open Go.Proofs.YtfiabbfdnmldjaaGreatDoor.C0 Go.Proofs.YtfiabbfdnmldjaaGreatDoor.S0 Go.Proofs.YtfiabbfdnmldjaaGreatDoor.S1 Go.Proofs.YtfiabbfdnmldjaaGreatDoor.S2 Go.Proofs.YtfiabbfdnmldjaaGreatDoor.S3 Go.Proofs.YtfiabbfdnmldjaaGreatDoor.O1 Go.Proofs.YtfiabbfdnmldjaaGreatDoor.T5 Go.Proofs.YtfiabbfdnmldjaaGreatDoor.U0 Go.Proofs.YtfiabbfdnmldjaaGreatDoor.U1 Go.Proofs.YtfiabbfdnmldjaaGreatDoor.U2 Go.Proofs.YtfiabbfdnmldjaaGreatDoor.U3 Go.Proofs.YtfiabbfdnmldjaaGreatDoor.U4 Go.Proofs.YtfiabbfdnmldjaaGreatDoor.U5 Go.Proofs.YtfiabbfdnmldjaaGreatDoor.U6 Go.Proofs.YtfiabbfdnmldjaaGreatDoor.U8 Go.Proofs.YtfiabbfdnmldjaaGreatDoor.V0 Go.Proofs.YtfiabbfdnmldjaaGreatDoor.V3 Go.Proofs.YtfiabbfdnmldjaaGreatDoor.V4 Go.Proofs.YtfiabbfdnmldjaaGreatDoor.W0 Go.Proofs.YtfiabbfdnmldjaaGreatDoor.W2 Go.Proofs.YtfiabbfdnmldjaaGreatDoor.X0 Go.Proofs.YtfiabbfdnmldjaaGreatDoor.X1
open Go.Proofs.YtfiabbfdnmldjaaGreatDoor.Dk (Out ill rightB right_iff St runS)
set_option maxRecDepth 100000 in
set_option maxHeartbeats 1600000 in
theorem put_impl (a1 a3 a5 a9 : Addr) (vs vp : Value) (ss : List ByteArray) (ps : List Pend) (t : ByteArray) (n : Int) (w : World) (hS : Sents w a1 a3 a5 a9) (hs : Strs w vs ss) (hp : Pends w vp ps) (hz : ∀ s ∈ ss, s.size ≤ maxLen) (hzp : ∀ p ∈ ps, p.2.size ≤ maxLen) (_ht : t.size ≤ maxLen) (hn1 : -9223372036854775808 ≤ n) (hn2 : n ≤ 9223372036854775807) :
    Calls Tryz.prog 10 #[.agg #[vs, vp], .string t, .int .i64 n] w fun e w' => AT w (putA ss ps t n) e w' := by
  obtain ⟨k0, k1, b0, z0⟩ := T5.k_box w (.cells #[vs, vp] 26) (.cells #[.slice none 0 0, .slice none 0 0, .string ⟨#[]⟩, .int .i64 0, .int .i64 0] 31)
  rw [putA_eq]
  by_cases ht8 : 8000 < t.size
  · rw [if_pos ht8]
    have ht8' : (8000 : Int) < (t.size : Int) := by omega
    have HF : ∀ W : World, Below w.heap.size w W → Hid (AT w (illA 2) (.returned (.agg #[.slice none 0 0, .slice none 0 0, .string ⟨#[]⟩, .int .i64 0, .int .i64 2])) W) := fun W h => ⟨none, 0, none, 0, rfl, ⟨World.ownsRow_nil _ _ _ _, World.ownsRow_nil _ _ _ _⟩, h⟩
    have b2 := (T5.k_box w (.cells #[vs, vp] 26) (.cells #[.slice none 0 0, .slice none 0 0, .string ⟨#[]⟩, .int .i64 0, .int .i64 2] 31)).2.2.1
    go_enter Tryz.func10, Tryz.ntmps10
    go_wp2
    exact bodyPost_ret (v := .agg #[.slice none 0 0, .slice none 0 0, .string ⟨#[]⟩, .int .i64 0, .int .i64 2]) (by simp [results, Tryz.results10, go_sem]) rfl (HF _ b2).out
  rw [if_neg ht8]
  have ht8' : ¬ (8000 : Int) < (t.size : Int) := by omega
  have hf : ∀ W, Sents W a1 a3 a5 a9 → Strs W vs ss → Pends W vp ps → Calls Tryz.prog 37 #[.agg #[vs, vp], .string t, .int .i64 n] W fun e w' => FTold a1 a3 a5 a9 W (downO ss ps t n) e w' := fun W h h1 h2 => down_any a1 a3 a5 a9 vs vp ss ps t n W h h1 h2 hz hzp (by omega) hn1 hn2
  generalize downO ss ps t n = o at hf ⊢
  go_enter Tryz.func10, Tryz.ntmps10
  go_wp2_with fail
  refine (hf _ (hS.below b0) (hs.below b0) (hp.below b0)).mono ?_
  rintro e w1 ⟨fa, m, fa', m', err, rfl, ho1, herr, hb1⟩
  rw [z0] at ho1
  have B1 := bel2 b0 hb1
  have HNE : Hid (w1.heap.size ≠ w.heap.size + 1) := by have := hb1.size; rw [z0] at this; exact fun e => by omega
  have k2 := carryA (carry k1 hb1) (.cells #[.slice fa o.ss.length m, .slice fa' o.ps.length m'] 26)
  have kL := heap_alloc_new w1 (.cells #[.slice fa o.ss.length m, .slice fa' o.ps.length m'] 26)
  have ho2 := ho1.below (albel w1 (.cells #[.slice fa o.ss.length m, .slice fa' o.ps.length m'] 26))
  have B2 := bel2 B1 (albel w1 (.cells #[.slice fa o.ss.length m, .slice fa' o.ps.length m'] 26))
  go_wp2_with fail
  obtain ⟨W, hW⟩ : ∃ W, w1.alloc (.cells #[.slice fa o.ss.length m, .slice fa' o.ps.length m'] 26) = W := ⟨_, rfl⟩
  rw [hW] at k2 kL ho2 B2 ⊢
  clear hW k0 k1 ho1 B1 hb1
  obtain ⟨q0, q1, -, -⟩ := blk2 kL
  go_region_held3 (fun w' => w'.cell? ⟨w1.heap.size, 0, none⟩ = some (.slice fa o.ss.length m) ∧ w'.cell? ⟨w1.heap.size, 1, none⟩ = some (.slice fa' o.ps.length m'))
    (first
      | (with_reducible exact keepA kL BN)
      | (with_reducible exact keepA kL (Below.refl _ _).drew)
      | (with_reducible exact keep5 kL BN HNE _ _ _ _ _)
      | go_keep)
    (first
      | (go_at_call 35; refine (code_any a1 a3 a5 a9 _ _ _ ((hS.below B2).below ((Below.refl _ _).drew)) herr).mono ?_; rintro e wn ⟨rfl, hbn⟩; have BN : Below W.heap.size W wn := undrew hbn; obtain ⟨x0, x1, x2, x3, x4, xf, x9⟩ := blk5 (carry k2 BN)))
  have HF : Hid (∀ p q r s u, AT w ⟨o.ss, o.ps, ⟨#[]⟩, 0, o.k⟩ (.returned (.agg #[.slice fa o.ss.length m, .slice fa' o.ps.length m', .string ⟨#[]⟩, .int .i64 0, .int .i64 o.k])) (set5 wn (w.heap.size + 1) p q r s u)) := fin_area (bel2 B2 BN) (ho2.below BN) (by omega) (by omega)
  go_wp2
  exact bodyPost_ret (v := .agg #[.slice fa o.ss.length m, .slice fa' o.ps.length m', .string ⟨#[]⟩, .int .i64 0, .int .i64 o.k]) (by simp [results, Tryz.results10, go_sem, x0, x1, x2, x3, x4]) rfl (HF.out _ _ _ _ _)
end Go.Proofs.YtfiabbfdnmldjaaGreatDoor.X2
