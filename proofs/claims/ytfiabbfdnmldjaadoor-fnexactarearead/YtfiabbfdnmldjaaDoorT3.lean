/-
  The specification's way of copying a disk: two rows, in whatever order.
-/
import Derived.Test.YtfiabbfdnmldjaaDoorT2
import Derived.Deep.RegionLaw
namespace Go.Proofs.YtfiabbfdnmldjaaDoor.T3
open Go.RowKit
open Go.Proofs.YtfiabbfdnmldjaaDoor.C0 Go.Proofs.YtfiabbfdnmldjaaDoor.S0 Go.Proofs.YtfiabbfdnmldjaaDoor.S1 Go.Proofs.YtfiabbfdnmldjaaDoor.S2 Go.Proofs.YtfiabbfdnmldjaaDoor.S3 Go.Proofs.YtfiabbfdnmldjaaDoor.O1 Go.Proofs.YtfiabbfdnmldjaaDoor.T2

theorem lit_at {w : World} {base g size : Nat} {e : TypeId} (h : w.heap[g]? = some (.cells #[] e (0, 0))) (hb : base ≤ g) : w.ownsRow base e size (.slice (some ⟨g, 0, none⟩) 0 0) 0 [] :=
  ⟨by simp, .inr ⟨g, 0, #[], rfl, hb, h, Nat.le_refl _, Nat.zero_le _, by simp, by simp⟩⟩
theorem alloc_at {w : World} {o : Obj} {g : Nat} (h : g = w.heap.size) : (w.alloc o).heap[g]? = some o := by subst h; exact heap_alloc_new w o
theorem balloc {a w : World} (h : Below a.heap.size a w) (o : Obj) : Below a.heap.size a (w.alloc o) := h.alloc h.size o
theorem keepS {W w' : World} {g : Nat} {a b c d : Value} {T U : TypeId} (k0 : W.heap[g]? = some (.cells #[a, b] T)) (k1 : W.heap[g + 1]? = some (.cells #[c, d] U)) (h : Below W.heap.size W w') :
    w'.cell? ⟨g, 0, none⟩ = some a ∧ w'.cell? ⟨g, 1, none⟩ = some b ∧ w'.cell? ⟨g + 1, 0, none⟩ = some c ∧ w'.cell? ⟨g + 1, 1, none⟩ = some d ∧ (∀ o, w'.frozen? ⟨g + 1, o, none⟩ = false) ∧ Below W.heap.size W w' := by
  obtain ⟨h0, h1, _, _⟩ := blk2 (carry k0 h)
  obtain ⟨h2, h3, h4, _⟩ := blk2 (carry k1 h)
  exact ⟨h0, h1, h2, h3, h4, h⟩
theorem kept_s {B base g : Nat} {X w' : World} {v : Value} {l : List ByteArray} (h : OStrs B X v l) (hl : X.ownsRow base 73 2 (.slice (some ⟨g, 0, none⟩) 0 0) 0 []) (hg : X.grownBy w' (some g)) : OStrs B w' v l :=
  own_keep h fun k hk => hg.block k (h.lt k hk).2 (fun e => own_apart (m := []) h hl k hk (by cases e; rfl))
theorem kept_p {B base g : Nat} {X w' : World} {v : Value} {l : List Pend} (h : OPends B X v l) (hl : X.ownsRow base 9 1 (.slice (some ⟨g, 0, none⟩) 0 0) 0 []) (hg : X.grownBy w' (some g)) : OPends B w' v l :=
  own_keep h fun k hk => hg.block k (h.lt k hk).2 (fun e => own_apart (l := []) hl h k (by cases e; rfl) hk)
theorem keep2 {p q r : Prop} (h : p ∧ q ∧ r) : p ∧ q := ⟨h.1, h.2.1⟩
set_option maxRecDepth 100000 in
set_option maxHeartbeats 4000000 in
theorem copy_spec (vs vp : Value) (ss : List ByteArray) (ps : List Pend) (w : World) (hs : Strs w vs ss) (hp : Pends w vp ps) (hz : ss.length ≤ 1048576) (hzp : ps.length ≤ 1048576) :
    Calls Tryd.prog 36 #[.agg #[vs, vp]] w fun e w' => DTold w ss ps e w' := by
  obtain ⟨i0, hi, hz0, hz1, hz2⟩ := info_parts info_str
  obtain ⟨j0, hj, hy0, hy1, hy2⟩ := info_parts info_pend
  obtain ⟨sa, sc, rfl⟩ : ∃ a c, vs = .slice a ss.length c := hs.len
  obtain ⟨pa, pc, rfl⟩ : ∃ a c, vp = .slice a ps.length c := by obtain ⟨a, c, e, _⟩ := hp; exact ⟨a, c, e⟩
  have b0 : Below w.heap.size w ((w.alloc (.cells #[.slice sa ss.length sc, .slice pa ps.length pc] 29)).alloc (.cells #[.slice none 0 0, .slice none 0 0] 29)) := ((Below.refl _ _).alloc (Nat.le_refl _) _).alloc (by simp) _
  have e2 : ((w.alloc (.cells #[.slice sa ss.length sc, .slice pa ps.length pc] 29)).alloc (.cells #[.slice none 0 0, .slice none 0 0] 29)).heap.size = w.heap.size + 2 := by simp
  go_enter Tryd.func36, Tryd.ntmps36
  go_wp2_with fail
  obtain ⟨W, hW⟩ : ∃ W, (w.alloc (.cells #[.slice sa ss.length sc, .slice pa ps.length pc] 29)).alloc (.cells #[.slice none 0 0, .slice none 0 0] 29) = W := ⟨_, rfl⟩
  have k0 : W.heap[w.heap.size]? = some (.cells #[.slice sa ss.length sc, .slice pa ps.length pc] 29) := by rw [← hW]; exact carryA (heap_alloc_new w _) _
  have k1 : W.heap[w.heap.size + 1]? = some (.cells #[.slice none 0 0, .slice none 0 0] 29) := by rw [← hW]; have := heap_alloc_new (w.alloc (.cells #[.slice sa ss.length sc, .slice pa ps.length pc] 29)) (.cells #[.slice none 0 0, .slice none 0 0] 29); simpa using this
  rw [hW] at b0 e2 ⊢
  clear hW
  have hs1 := hs.below b0
  have hp1 := hp.below b0
  obtain ⟨q0, q1, -, q9⟩ := blk2 k0
  obtain ⟨r0, r1, rf, r9⟩ := blk2 k1
  have E2 : Hid (W.heap.size = w.heap.size + 2) := e2
  clear e2
  go_region_held3 (fun w' => w'.cell? ⟨w.heap.size, 0, none⟩ = some (.slice sa ss.length sc) ∧ w'.cell? ⟨w.heap.size, 1, none⟩ = some (.slice pa ps.length pc))
    (first
      | exact keep2 (keepS k0 k1 BS)
      | exact keep2 (keepS k0 k1 BP)
      | go_keep)
    (first
      | (refine step_copy _ (by rfl) _ _ 22 (by rfl) 9 i0 (.string ⟨#[]⟩) 1 16 Tryd.underlying22 hi hz0 hz1 hz2 rfl (by decide) W.heap.size _ (by rfl)
           (lit_at (by first
             | exact alloc_at (by simp)
             | exact carryA (alloc_at (by simp)) _
             | exact (hgP.block _ (by first | (simp; done) | (simp; omega)) (by first | (simp; done) | (simp; omega))).trans (alloc_at (by simp))
             | exact (hgP.block _ (by first | (simp; done) | (simp; omega)) (by first | (simp; done) | (simp; omega))).trans (carryA (alloc_at (by simp)) _)) (by first | omega | simp | (have := BP.size; omega)))
           _ _ _ (by rfl) (cs ss) (cs_length ss) (src_strs (hs1.below (by first | exact BS | exact BP | exact balloc BS _ | exact balloc BP _ | exact (balloc (Below.refl _ _) _).drew | exact (balloc (balloc (Below.refl _ _) _) _).drew))).2 (one_cs ss) (by unfold maxLen; omega) (by omega) (Below.size (w := W) (B := W.heap.size) (by first | exact BS | exact BP | exact balloc BS _ | exact balloc BP _ | exact (balloc (Below.refl _ _) _).drew | exact (balloc (balloc (Below.refl _ _) _) _).drew)) ?_
         intro a c wS hoS hgS lS
         have BS : Below W.heap.size W wS := Below.grown (w := _) (by first | exact BS | exact BP | exact balloc BS _ | exact balloc BP _ | exact (balloc (Below.refl _ _) _).drew | exact (balloc (balloc (Below.refl _ _) _) _).drew) hgS (Below.size (w := W) (B := W.heap.size) (by first | exact BS | exact BP | exact balloc BS _ | exact balloc BP _ | exact (balloc (Below.refl _ _) _).drew | exact (balloc (balloc (Below.refl _ _) _) _).drew)) (fun k h => by cases h; first | omega | simp | (have := BP.size; omega))
         obtain ⟨-, -, s2, s3, sf, -⟩ := keepS k0 k1 BS
         try (have hoP2 : OPends W.heap.size wS (.slice a' ps.length c') ps := (by first | exact kept_p hoP lS hgS | exact kept_p (own_keep hoP (fun g h => Below.heap_alloc _ _ _ (hoP.lt g h).2)) lS hgS)))
      | (refine step_copy _ (by rfl) _ _ 27 (by rfl) 73 j0 (.agg #[.int .i64 0, .string ⟨#[]⟩]) 2 24 Tryd.underlying27 hj hy0 hy1 hy2 rfl (by decide) W.heap.size _ (by rfl)
           (lit_at (by first
             | exact alloc_at (by simp)
             | exact carryA (alloc_at (by simp)) _
             | exact (hgS.block _ (by first | (simp; done) | (simp; omega)) (by first | (simp; done) | (simp; omega))).trans (alloc_at (by simp))
             | exact (hgS.block _ (by first | (simp; done) | (simp; omega)) (by first | (simp; done) | (simp; omega))).trans (carryA (alloc_at (by simp)) _)) (by first | omega | simp | (have := BS.size; omega)))
           _ _ _ (by rfl) (cp ps) (cp_length ps) (src_pends (hp1.below (by first | exact BS | exact BP | exact balloc BS _ | exact balloc BP _ | exact (balloc (Below.refl _ _) _).drew | exact (balloc (balloc (Below.refl _ _) _) _).drew))).2 (one_cp ps) (by unfold maxLen; omega) (by omega) (Below.size (w := W) (B := W.heap.size) (by first | exact BS | exact BP | exact balloc BS _ | exact balloc BP _ | exact (balloc (Below.refl _ _) _).drew | exact (balloc (balloc (Below.refl _ _) _) _).drew)) ?_
         intro a' c' wP hoP hgP lP
         have BP : Below W.heap.size W wP := Below.grown (w := _) (by first | exact BS | exact BP | exact balloc BS _ | exact balloc BP _ | exact (balloc (Below.refl _ _) _).drew | exact (balloc (balloc (Below.refl _ _) _) _).drew) hgP (Below.size (w := W) (B := W.heap.size) (by first | exact BS | exact BP | exact balloc BS _ | exact balloc BP _ | exact (balloc (Below.refl _ _) _).drew | exact (balloc (balloc (Below.refl _ _) _) _).drew)) (fun k h => by cases h; first | omega | simp | (have := BS.size; omega))
         obtain ⟨-, -, t2, t3, tf, -⟩ := keepS k0 k1 BP
         try (have hoS2 : OStrs W.heap.size wP (.slice a ss.length c) ss := (by first | exact kept_s hoS lP hgP | exact kept_s (own_keep hoS (fun g h => Below.heap_alloc _ _ _ (hoS.lt g h).2)) lP hgP))))
  all_goals
    first
      | (have HF : Hid (∀ u u', DTold w ss ps (.returned (.agg #[.slice a ss.length c, .slice a' ps.length c'])) ((wP.setCell ⟨w.heap.size + 1, 0, none⟩ u).setCell ⟨w.heap.size + 1, 1, none⟩ u')) := fin_disk b0 E2.out BP ⟨hoS2, hoP⟩
         go_wp2
         exact bodyPost_ret (v := .agg #[.slice a ss.length c, .slice a' ps.length c']) (by simp [results, Tryd.results36, go_sem, t2, t3]) rfl (HF.out _ _))
      | (have HF : Hid (∀ u u', DTold w ss ps (.returned (.agg #[.slice a ss.length c, .slice a' ps.length c'])) ((wS.setCell ⟨w.heap.size + 1, 0, none⟩ u).setCell ⟨w.heap.size + 1, 1, none⟩ u')) := fin_disk b0 E2.out BS ⟨hoS, hoP2⟩
         go_wp2
         exact bodyPost_ret (v := .agg #[.slice a ss.length c, .slice a' ps.length c']) (by simp [results, Tryd.results36, go_sem, s2, s3]) rfl (HF.out _ _))
end Go.Proofs.YtfiabbfdnmldjaaDoor.T3
