/-
  A card in memory of its own, in the program.
-/
import Derived.Test.YteehgicnfageiaaDoorP2
import Derived.Test.YteehgicnfageiaaDoorP0
import Derived.Test.YteehgicnfageiaaDoorPJ
import Derived.Deep.RegionHeld3
import Derived.Deep.DeepCutAuto
namespace Go.Proofs.YteehgicnfageiaaDoor.P5
open Go.RowKit
open Go.Proofs.YteehgicnfageiaaDoor.C0 Go.Proofs.YteehgicnfageiaaDoor.HB
open Go.Proofs.YteehgicnfageiaaDoor.J1 (shareR yes2 no2)
open Go.Proofs.YteehgicnfageiaaDoor.N0 (Cd cdV cardB pinB)
open Go.Proofs.YteehgicnfageiaaDoor.P1 (CO coV ill coV_ill)
open Go.Proofs.YteehgicnfageiaaDoor.P2
open Go.Proofs.YteehgicnfageiaaDoor.N2 (numT numT_size)
open Go.Proofs.YteehgicnfageiaaDoor.K2 (Laid)

theorem blk2f {w : World} {g : Nat} {a b : Value} {T : TypeId} (h : w.heap[g]? = some (.cells #[a, b] T (0, 0))) : w.cell? ⟨g, 0, none⟩ = some a ∧ w.cell? ⟨g, 1, none⟩ = some b ∧ (∀ o, w.frozen? ⟨g, o, none⟩ = false) :=
  ⟨by simp [World.cell?, h], by simp [World.cell?, h], fun o => by simp [World.frozen?, h]⟩
theorem bl1 {W wn : World} {a : Obj} (h : Below (W.alloc a).drew.heap.size (W.alloc a).drew wn) : Below W.heap.size W wn := bel2 (albel _ _) (undrew h)
theorem bl2 {W wn : World} {a b : Obj} (h : Below ((W.alloc a).alloc b).drew.heap.size ((W.alloc a).alloc b).drew wn) : Below W.heap.size W wn := bel2 (two_new W a b).2.2 (undrew h)
/-- A share of one's own, behind a pointer. -/
def OwnSh (W : World) (ix : Int) (dt : ByteArray) (s : Value) (wx : World) : Prop :=
  ∃ Y, s = .pointer (some ⟨Y, 0, none⟩) ∧ wx.heap[Y]? = some (.cells #[.int .i64 ix, .string dt] 24 (0, 0)) ∧ W.heap.size ≤ Y ∧ Below W.heap.size W wx
theorem OwnSh.fresh {W w3 : World} {ix : Int} {dt : ByteArray} (hB : Below W.heap.size W w3) : OwnSh W ix dt (.pointer (some ⟨w3.heap.size, 0, none⟩)) (w3.alloc (.cells #[.int .i64 ix, .string dt] 24)) :=
  ⟨_, rfl, heap_alloc_new _ _, hB.size, bel2 hB (albel _ _)⟩
theorem OwnSh.laid {W w3 : World} {ix : Int} {dt : ByteArray} {Y : Nat} {a b : Value} (hY : w3.heap[Y]? = some (.cells #[a, b] 24 (0, 0))) (hl : W.heap.size ≤ Y) (hB : Below W.heap.size W w3) :
    OwnSh W ix dt (.pointer (some ⟨Y, 0, none⟩)) ((w3.setCell ⟨Y, 0, none⟩ (.int .i64 ix)).setCell ⟨Y, 1, none⟩ (.string dt)) := by
  have h0 : w3.rowIs Y 24 2 (fun j => if j = 0 then a else b) := ⟨_, hY, rfl, fun j hj => by
    match j, hj with
    | 0, _ => rfl
    | 1, _ => rfl⟩
  obtain ⟨c, hb, hn, hc⟩ := (h0.set 0 (.int .i64 ix)).set 1 (.string dt)
  refine ⟨Y, rfl, ?_, hl, (hB.setCell hl _).setCell hl _⟩
  rw [hb]
  congr 2
  apply Array.ext_getElem?
  intro i
  by_cases hi : i < 2
  · rw [hc i hi]
    match i, hi with
    | 0, _ => rfl
    | 1, _ => rfl
  · rw [Array.getElem?_eq_none (by omega), Array.getElem?_eq_none (by simp; omega)]
theorem kept2s {W x : World} {g : Nat} {a b : Value} {T : TypeId} (k : W.heap[g]? = some (.cells #[a, b] T (0, 0))) (hx : Below W.heap.size W x) : x.cell? ⟨g, 0, none⟩ = some a ∧ x.cell? ⟨g, 1, none⟩ = some b :=
  ⟨(blk2f (carry k hx)).1, (blk2f (carry k hx)).2.1⟩
theorem set6 {w w1 : World} {B : Nat} (h : Below w.heap.size w w1) (hB : w.heap.size ≤ B) (a b c d e f : Value) :
    Below w.heap.size w ((((((w1.setCell ⟨B, 0, none⟩ a).setCell ⟨B, 1, none⟩ b).setCell ⟨B, 2, none⟩ c).setCell ⟨B, 3, none⟩ d).setCell ⟨B, 4, none⟩ e).setCell ⟨B, 5, none⟩ f) :=
  (((((h.setCell hB _).setCell hB _).setCell hB _).setCell hB _).setCell hB _).setCell hB _
theorem kept2o {W x : World} {g B : Nat} {a b : Value} {T : TypeId} (k : W.heap[g]? = some (.cells #[a, b] T (0, 0))) (hx : Below W.heap.size W x) (h : g ≠ B) (c d e f i j : Value) :
    ((((((x.setCell ⟨B, 0, none⟩ c).setCell ⟨B, 1, none⟩ d).setCell ⟨B, 2, none⟩ e).setCell ⟨B, 3, none⟩ f).setCell ⟨B, 4, none⟩ i).setCell ⟨B, 5, none⟩ j).cell? ⟨g, 0, none⟩ = some a ∧
    ((((((x.setCell ⟨B, 0, none⟩ c).setCell ⟨B, 1, none⟩ d).setCell ⟨B, 2, none⟩ e).setCell ⟨B, 3, none⟩ f).setCell ⟨B, 4, none⟩ i).setCell ⟨B, 5, none⟩ j).cell? ⟨g, 1, none⟩ = some b := by
  have hk : ((((((x.setCell ⟨B, 0, none⟩ c).setCell ⟨B, 1, none⟩ d).setCell ⟨B, 2, none⟩ e).setCell ⟨B, 3, none⟩ f).setCell ⟨B, 4, none⟩ i).setCell ⟨B, 5, none⟩ j).heap[g]? = some (.cells #[a, b] T (0, 0)) := by
    rw [heap_setCell_other _ _ _ _ h, heap_setCell_other _ _ _ _ h, heap_setCell_other _ _ _ _ h, heap_setCell_other _ _ _ _ h, heap_setCell_other _ _ _ _ h, heap_setCell_other _ _ _ _ h]
    exact carry k hx
  exact ⟨(blk2f hk).1, (blk2f hk).2.1⟩
theorem joined_at (b cap : Nat) (s : ByteArray) (X : World) (k : X.heap[b]? = some (.cells #[.string s] 9 (0, 0))) (hs : s.size ≤ 4000000) :
    Calls Tryd.prog 48 #[.slice (some ⟨b, 0, none⟩) 1 cap] X fun e w' => e = .returned (.string s) ∧ Below X.heap.size X w' :=
  PJ.joined_one b 0 cap s X (lt_some k) hs (block_cell k 0)
set_option maxRecDepth 100000 in
set_option maxHeartbeats 3200000 in
theorem cardOf_impl (id ep : Int) (pin : ByteArray) (ix : Int) (dt : ByteArray) (w : World) (hL : Laid w) (h1 : -9223372036854775808 ≤ id) (h2 : id ≤ 9223372036854775807) (hp : pin.size ≤ 8000) (hd : dt.size ≤ 4000000) :
    Calls Tryd.prog 46 #[.int .i64 id, .int .i64 ep, .string pin, .agg #[.int .i64 ix, .string dt]] w fun e w' => e = .returned (cdV ⟨id, ep, macOf id pin, 3, ix, dt⟩) ∧ Below w.heap.size w w' := by
  have hn := two_new w (.cells #[.int .i64 ix, .string dt] 24) (.cells #[.int .i64 0, .int .i64 0, .string ⟨#[]⟩, .int .i64 0, .int .i64 0, .string ⟨#[]⟩] 26)
  have KS := hn.1
  have KR := hn.2.1
  have B0 := hn.2.2
  clear hn
  have hns := numT_size id
  have HP : Hid (∀ W, Calls Tryd.prog 52 #[.int .i64 id] W fun e w' => e = .returned (.string (numT id)) ∧ Below W.heap.size W w') := fun W => C1.put_impl id W h1 h2
  have HM : Hid (∀ W, Laid W → Calls Tryd.prog 75 #[.string (numT id), .string pin] W fun e w' => e = .returned (.string (macOf id pin)) ∧ Below W.heap.size W w') := fun W hW => KA.mac_impl0 (numT id) pin W (by omega) hp hW
  generalize numT id = p at *
  generalize macOf id pin = m at *
  clear hns h1 h2 hp
  unfold cdV
  dsimp only
  go_enter Tryd.func46, Tryd.ntmps46
  go_wp2_with fail
  obtain ⟨W, hW⟩ : ∃ W, (w.alloc (.cells #[.int .i64 ix, .string dt] 24)).alloc (.cells #[.int .i64 0, .int .i64 0, .string ⟨#[]⟩, .int .i64 0, .int .i64 0, .string ⟨#[]⟩] 26) = W := ⟨_, rfl⟩
  rw [hW] at KS KR B0
  try rw [hW]
  clear hW
  have hLW : Hid (Laid W) := hL.below B0
  have KRH : Hid _ := KR
  have BH : Hid (Below w.heap.size w W) := B0
  obtain ⟨q0, q1⟩ := blk2c KS
  clear KR B0 hL
  go_cut [9] (fun s wx => OwnSh W ix dt s wx)
  case first =>
    go_region_held3 (fun x => x.cell? ⟨w.heap.size, 0, none⟩ = some (.int .i64 ix) ∧ x.cell? ⟨w.heap.size, 1, none⟩ = some (.string dt))
      (first
        | (with_reducible exact kept2s KS (Below.refl _ _).drew)
        | (with_reducible exact kept2s KS (albel _ _).drew)
        | (with_reducible exact kept2s KS BN)
        | (with_reducible exact kept2s KS (two_new _ _ _).2.2.drew)
        | (with_reducible exact kept2s KS (bel2 BN (albel _ _)))
        | (with_reducible exact kept2s KS ((BN.setCell YL _).setCell YL _))
        | go_keep)
      (first
        | (go_at_call 48
           refine (joined_at _ 1 dt _ ?_ hd).mono ?_
           first | exact heap_alloc_new _ _ | exact (two_new _ _ _).1 | exact (two_new _ _ _).2.1
           rintro e wn ⟨rfl, hbn⟩
           have BN : Below W.heap.size W wn := (by first | exact bl1 hbn | exact bl2 hbn)
           first
             | (have KY := carry (carryA (heap_alloc_new W (.cells #[.int .i64 0, .string ⟨#[]⟩] 24)) _) (undrew hbn); have YL := Nat.le_refl W.heap.size; obtain ⟨y0, y1, yf⟩ := blk2f KY)
             | (have KY := carry (two_new W _ (.cells #[.int .i64 0, .string ⟨#[]⟩] 24)).2.1 (undrew hbn); have YL := Nat.le_succ W.heap.size; obtain ⟨y0, y1, yf⟩ := blk2f KY)
             | skip))
    all_goals
      go_wp2_with fail
      go_meet
      case rel => first | (with_reducible exact OwnSh.laid KY YL BN) | (with_reducible exact OwnSh.fresh BN)
  case rest =>
    obtain ⟨Y, rfl, KY, hYl, hBY⟩ := hcut
    have KR2 := carry KRH.out hBY
    have hL2 : Laid wc := hLW.out.below hBY
    have BW : Hid (Below w.heap.size w wc) := bel2 BH.out hBY
    obtain ⟨y0, y1⟩ := blk2c KY
    have hYY : w.heap.size + 1 < W.heap.size := lt_some KRH.out
    have hne : Y ≠ w.heap.size + 1 := by omega
    clear q0 q1 KS hBY hLW
    go_wp2_with fail
    have KYH : Hid _ := KY
    clear KY
    go_region_with (first
      | (go_at_call 52; refine (HP.out _).mono ?_; rintro e wn ⟨rfl, hbn⟩; have BN : Below wc.heap.size wc wn := undrew hbn; obtain ⟨z0, z1⟩ := kept2s KYH.out BN; clear hbn)
      | (go_at_call 75; refine (HM.out _ (hL2.below BN)).mono ?_; rintro e w5 ⟨rfl, hbm⟩; have BM : Below wc.heap.size wc w5 := bel2 BN hbm; obtain ⟨u0, u1⟩ := kept2s KYH.out BM; obtain ⟨r0, r1, r2, r3, r4, r5, rf⟩ := blk6 (carry KR2 BM); clear hbm))
    all_goals
      have B9 : Hid (Below w.heap.size w w5) := bel2 BW.out BM
      go_wp2
      exact bodyPost_ret (v := .agg #[.int .i64 id, .int .i64 ep, .string m, .int .i64 3, .int .i64 ix, .string dt]) (by simp [results, Tryd.results46, go_sem, r0, r1, r2, r3, r4, r5]) rfl ⟨rfl, set6 B9.out (by omega) _ _ _ _ _ _⟩
end Go.Proofs.YteehgicnfageiaaDoor.P5
