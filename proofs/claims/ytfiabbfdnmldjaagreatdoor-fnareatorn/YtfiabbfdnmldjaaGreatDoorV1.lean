/-
  The specification's reading of a text.
-/
import Derived.Test.YtfiabbfdnmldjaaGreatDoorV0
import Derived.Test.YtfiabbfdnmldjaaGreatDoorU5
namespace Go.Proofs.YtfiabbfdnmldjaaGreatDoor.V1
open Go.RowKit Go.IntWalk
open Go.Proofs.YtfiabbfdnmldjaaGreatDoor.C0 Go.Proofs.YtfiabbfdnmldjaaGreatDoor.S0 Go.Proofs.YtfiabbfdnmldjaaGreatDoor.S1 Go.Proofs.YtfiabbfdnmldjaaGreatDoor.S3 Go.Proofs.YtfiabbfdnmldjaaGreatDoor.O1 Go.Proofs.YtfiabbfdnmldjaaGreatDoor.T0 Go.Proofs.YtfiabbfdnmldjaaGreatDoor.T2 Go.Proofs.YtfiabbfdnmldjaaGreatDoor.T3 Go.Proofs.YtfiabbfdnmldjaaGreatDoor.T4 Go.Proofs.YtfiabbfdnmldjaaGreatDoor.T5 Go.Proofs.YtfiabbfdnmldjaaGreatDoor.U0 Go.Proofs.YtfiabbfdnmldjaaGreatDoor.U2 Go.Proofs.YtfiabbfdnmldjaaGreatDoor.U4 Go.Proofs.YtfiabbfdnmldjaaGreatDoor.U8 Go.Proofs.YtfiabbfdnmldjaaGreatDoor.U9 Go.Proofs.YtfiabbfdnmldjaaGreatDoor.V0
open Go.Proofs.YtfiabbfdnmldjaaGreatDoor.Dk (rightB right_iff readR sect want gath SideOk gath_length gath_end sect_read)
theorem strCells_eq (s : ByteArray) : Lib.strCells s = (Mb.cells s.data.toList).map (Value.int .u8) := by
  simp [Lib.strCells, Mb.cells]
/-- So far: i sectors are gathered. -/
def RelG (W : World) (ss : List ByteArray) (ps : List Pend) (f z : Nat) (b x : Value) (wr : World) : Prop :=
  ∃ i : Nat, i ≤ 32 ∧ x = .int .i64 (i : Nat) ∧ (∀ k, k < i → 64 * k < z ∧ want z k ≤ (sect ss ps (f + k)).size) ∧ (∃ a c, b = .slice a (gath ss ps f z i).length c) ∧ owns W.heap.size b (gath ss ps f z i) wr ∧ Below W.heap.size W wr
theorem own_slice {B e sz n : Nat} {w : World} {v : Value} {xs : List Value} (h : w.ownsRow B e sz v n xs) : ∃ a c, v = .slice a n c := by
  rcases h.2 with ⟨rfl, h0⟩ | ⟨g, cap, cur, rfl, _⟩
  · exact ⟨none, 0, by rw [h0]⟩
  · exact ⟨_, _, rfl⟩
theorem extract_list (s : ByteArray) (k : Nat) : (s.extract 0 k).data.toList = s.data.toList.take k := by
  rw [ByteArray.data_extract]; simp
theorem RelG.step {W w9 w5 : World} {ss : List ByteArray} {ps : List Pend} {f z i k : Nat} {v v' : Value} {t : ByteArray} (hi : i + 1 ≤ 32) (own1 : owns W.heap.size v (gath ss ps f z i) w9)
    (hown5 : w5.ownsRow W.heap.size 5 1 v' ((gath ss ps f z i).length + (t.extract 0 k).size) ((Mb.cells (gath ss ps f z i)).map (Value.int .u8) ++ Lib.strCells (t.extract 0 k)))
    (hgr : w9.grownBy w5 v.ownBlock) (bel4 : Below W.heap.size W w9) (hS : gath ss ps f z (i + 1) = gath ss ps f z i ++ t.data.toList.take k) (hall : ∀ k, k < i + 1 → 64 * k < z ∧ want z k ≤ (sect ss ps (f + k)).size) :
    RelG W ss ps f z v' (.int .i64 ((i : Int) + 1)) w5 := by
  have e : (t.extract 0 k).size = (t.data.toList.take k).length := by rw [← extract_list]; exact Array.length_toList.symm
  have hl : (gath ss ps f z (i + 1)).length = (gath ss ps f z i).length + (t.extract 0 k).size := by rw [hS, List.length_append, e]
  have ho : owns W.heap.size v' (gath ss ps f z (i + 1)) w5 := by
    unfold owns
    rw [hl, hS]
    rw [strCells_eq, extract_list] at hown5
    simpa [Mb.cells] using hown5
  refine ⟨i + 1, hi, by simp, hall, own_slice ho, ho, ?_⟩
  exact bel4.grown hgr bel4.size (fun q hq => (own1.lt q hq).1)
set_option maxRecDepth 100000 in
set_option maxHeartbeats 1600000 in
theorem read_spec (vs vp : Value) (ss : List ByteArray) (ps : List Pend) (w : World) (hs : Strs w vs ss) (hp : Pends w vp ps) (hz : ∀ s ∈ ss, s.size ≤ maxLen) (hzp : ∀ p ∈ ps, p.2.size ≤ maxLen) :
    Calls Tryz.prog 13 #[.agg #[vs, vp]] w fun e w' => AT w (readA ss ps) e w' := by
  obtain ⟨sa, sc, rfl⟩ : ∃ a c, vs = .slice a ss.length c := hs.len
  obtain ⟨k0, k1, b0, z0⟩ := T5.k_box w (.cells #[.slice sa ss.length sc, vp] 26) (.cells #[.slice none 0 0, .slice none 0 0, .string ⟨#[]⟩, .int .i64 0, .int .i64 0] 31)
  cases hR : rightB ss ps
  · have hO : readA ss ps = illA 1 := by unfold readA; rw [if_pos hR]
    rw [hO]
    clear hO
    go_enter Tryz.func13, Tryz.ntmps13
    go_wp2_with fail
    refine (right_spec _ _ ss ps _ (hs.below b0) (hp.below b0) hz hzp).mono ?_
    rintro e w1 ⟨rfl, hb1⟩
    have B1 := bel2 b0 hb1
    have k11 := carry k1 hb1
    obtain ⟨q0, q1, -, -⟩ := blk2 (carry k0 hb1)
    clear k0 k1 hb1 b0
    rw [hR]
    go_wp2_with fail
    refine (U4.ill_spec 1 _).mono ?_
    rintro e wz ⟨rfl, hbz⟩
    obtain ⟨r0, r1, r2, r3, r4, rf, -⟩ := blk5 (carry k11 hbz)
    have HF : Hid (∀ p q r s u, AT w (illA 1) (.returned (.agg #[.slice none 0 0, .slice none 0 0, .string ⟨#[]⟩, .int .i64 0, .int .i64 1])) (set5 wz (w.heap.size + 1) p q r s u)) := fin_illA (bel2 B1 hbz) (by omega)
    go_wp2
    exact bodyPost_ret (v := .agg #[.slice none 0 0, .slice none 0 0, .string ⟨#[]⟩, .int .i64 0, .int .i64 1]) (by simp [results, Tryz.results13, go_sem, r0, r1, r2, r3, r4]) rfl (HF.out _ _ _ _ _)
  obtain ⟨n1, n2, n3, n4, n5⟩ := (right_iff ss ps).1 hR
  have hh31 := half_le _ n2
  have hseen : ∀ W, Strs W (.slice sa ss.length sc) ss → Pends W vp ps → Calls Tryz.prog 41 #[.agg #[.slice sa ss.length sc, vp]] W fun e w' => e = .returned (seenV (seenR (zeroth ss ps) (halfN ss.length * 64))) ∧ Below W.heap.size W w' := fun W h1 h2 => seen_spec _ _ ss ps W h1 h2 hR
  have hok := seen_ok (x := zeroth ss ps) (room := halfN ss.length * 64)
  have HA : Hid (readA ss ps = if (seenR (zeroth ss ps) (halfN ss.length * 64)).2.2.2 = 0 then
    (if SideOk ss ps (firstN ss.length (seenR (zeroth ss ps) (halfN ss.length * 64)).2.1.toNat) (seenR (zeroth ss ps) (halfN ss.length * 64)).2.2.1.toNat then
      ⟨ss, ps, ⟨(gath ss ps (firstN ss.length (seenR (zeroth ss ps) (halfN ss.length * 64)).2.1.toNat) (seenR (zeroth ss ps) (halfN ss.length * 64)).2.2.1.toNat 32).toArray⟩, (seenR (zeroth ss ps) (halfN ss.length * 64)).1, 0⟩
    else illA 5)
  else illA (seenR (zeroth ss ps) (halfN ss.length * 64)).2.2.2) := by unfold Hid readA; rw [if_neg (by rw [hR]; simp)]
  generalize readA ss ps = A at HA ⊢
  generalize seenR (zeroth ss ps) (halfN ss.length * 64) = SR at hseen hok HA
  obtain ⟨gen, side, size, code⟩ := SR
  go_enter Tryz.func13, Tryz.ntmps13
  go_wp2_with fail
  refine (right_spec _ _ ss ps _ (hs.below b0) (hp.below b0) hz hzp).mono ?_
  rintro e w1 ⟨rfl, hb1⟩
  have B1 := bel2 b0 hb1
  have k01 := carry k0 hb1
  have k11 := carry k1 hb1
  obtain ⟨q0, q1, -, -⟩ := blk2 k01
  clear k0 k1 hb1 b0
  rw [hR]
  go_wp2_with fail
  refine (hseen _ (hs.below B1) (hp.below B1)).mono ?_
  rintro e w2 ⟨rfl, hb2⟩
  have B2 := bel2 B1 hb2
  have k02 := carry k01 hb2
  have k12 := carry k11 hb2
  clear q0 q1 k01 k11 hb2 B1
  unfold seenV
  dsimp only at hok HA ⊢
  by_cases hc : code = 0
  case neg =>
    have hc' : (code == 0) = false := by simpa using hc
    rw [if_neg hc] at HA
    clear hc hok
    go_wp2_with fail
    refine (U4.ill_spec code _).mono ?_
    rintro e wz ⟨rfl, hbz⟩
    obtain ⟨r0, r1, r2, r3, r4, rf, -⟩ := blk5 (carry k12 hbz)
    have HF : Hid (∀ p q r s u, AT w A (.returned (.agg #[.slice none 0 0, .slice none 0 0, .string ⟨#[]⟩, .int .i64 0, .int .i64 code])) (set5 wz (w.heap.size + 1) p q r s u)) := fun p q r s u => by rw [HA.out]; exact fin_illA (bel2 B2 hbz) (by omega) p q r s u
    go_wp2
    exact bodyPost_ret (v := .agg #[.slice none 0 0, .slice none 0 0, .string ⟨#[]⟩, .int .i64 0, .int .i64 code]) (by simp [results, Tryz.results13, go_sem, r0, r1, r2, r3, r4]) rfl (HF.out _ _ _ _ _)
  subst hc
  obtain ⟨og, g0, ⟨sd0, sd1⟩, zz0, zz1⟩ := hok rfl
  obtain ⟨s, rfl⟩ : ∃ s : Nat, side = s := ⟨side.toNat, by omega⟩
  obtain ⟨z, rfl⟩ : ∃ z : Nat, size = z := ⟨size.toNat, by omega⟩
  rw [if_pos rfl] at HA
  simp only [Int.toNat_natCast] at HA
  clear hok
  have hs1 : s ≤ 1 := by omega
  have hz1 : z ≤ halfN ss.length * 64 := by omega
  have hfs : ∀ W, Calls Tryz.prog 43 #[.agg #[.slice sa ss.length sc, vp], .int .i64 (s : Nat)] W fun e w' => e = .returned (.int .i64 (firstN ss.length s : Nat)) ∧ Below W.heap.size W w' := fun W => first_spec sa ss.length sc s vp W n1 n2 hs1
  have hfb : firstN ss.length s + halfN ss.length ≤ ss.length := by
    unfold firstN halfN
    rcases (show s = 0 ∨ s = 1 by omega) with rfl | rfl <;> omega
  generalize firstN ss.length s = f at *
  have hread : ∀ (i : Nat) W, f + i < ss.length → Strs W (.slice sa ss.length sc) ss → Pends W vp ps → Calls Tryz.prog 42 #[.agg #[.slice sa ss.length sc, vp], .int .i64 ((f : Int) + (i : Int))] W fun e w' => OTold W ss ps (sect ss ps (f + i)) 0 e w' := fun i W h h1 h2 => by
    have := T5.read_spec (.slice sa ss.length sc) vp ss ps ((f + i : Nat) : Int) W h1 h2 hz hzp (by omega) (by omega)
    rw [sect_read hR h] at this
    rw [show ((f : Int) + (i : Int)) = ((f + i : Nat) : Int) by omega]
    exact this
  have hfd := field_data
  have H0 : Hid (RelG w2 ss ps f z (.slice (some ⟨w2.heap.size, 0, none⟩) 0 0) (.int .i64 0) (w2.alloc (.cells #[] 5))) := ⟨0, by omega, rfl, fun k hk => absurd hk (by omega), ⟨_, _, rfl⟩, owns_lit0 _ _ (Nat.le_refl _), albel _ _⟩
  clear hseen
  go_wp2_with fail
  go_loopw [7, 8] (fun b x wr => RelG w2 ss ps f z b x wr) (fun _ x _ => z - 64 * (intOf x).toNat)
  case atStart => exact H0.out
  case round =>
    clear H0
    obtain ⟨i, hi, rfl, hall, ⟨ba, bc, rfl⟩, hown, hbel⟩ := hrel
    have hgl := gath_length ss ps f z i (fun k hk => (hall k hk).2)
    have HALL : Hid (∀ k, k < i → 64 * k < z ∧ want z k ≤ (sect ss ps (f + k)).size) := hall
    clear hall
    have B3 := bel2 B2 hbel
    have k03 := carry k02 hbel
    have k13 := carry k12 hbel
    obtain ⟨q0, q1, -, -⟩ := blk2 k03
    by_cases hlt : 64 * i < z
    · have hl1 : ((gath ss ps f z i).length : Int) < (z : Int) := by omega
      have hwf : IntKind.i64.wrap ((f : Int) + (i : Int)) = (f : Int) + (i : Int) := i64_in _ (by omega)
      have hmin : min 64 ((z : Int) - ((gath ss ps f z i).length : Int)) = ((want z i : Nat) : Int) := by unfold want; omega
      have hw64 : want z i ≤ 64 := by unfold want; omega
      have hw0 : 0 < want z i := by unfold want; omega
      have hl2 : (gath ss ps f z i).length + want z i ≤ 4096 := by omega
      have hl3 : (gath ss ps f z i).length ≤ 2048 := by omega
      have HGL : Hid _ := hgl
      clear hgl
      go_wp2
      go_region_held3 (fun w' => w'.cell? ⟨w.heap.size, 0, none⟩ = some (.slice sa ss.length sc) ∧ w'.cell? ⟨w.heap.size, 1, none⟩ = some vp)
        (first
          | (with_reducible exact U5.keep2h k03 BN)
          | (with_reducible exact U5.keep2h k03 (Below.refl _ _).drew)
          | go_keep)
        (first
          | (go_at_call 43; refine (hfs _).mono ?_; rintro e wn ⟨rfl, hbn⟩; have BN : Below wr.heap.size wr wn := undrew hbn)
          | (go_at_call 42; refine (hread i _ (by omega) (hs.below (bel2 B3 BN)) (hp.below (bel2 B3 BN))).mono ?_; rintro e wn ⟨ra, rm, ra', rm', rfl, -, hbn⟩; have BN : Below wr.heap.size wr wn := bel2 BN hbn))
      have HS : Hid (gath ss ps f z (i + 1) = gath ss ps f z i ++ (sect ss ps (f + i)).data.toList.take (want z i)) := rfl
      have HNO : Hid (¬ want z i ≤ (sect ss ps (f + i)).size → A = illA 5) := fun h => by
        rw [HA.out, if_neg]
        exact fun hs => h (hs i (by omega) hlt)
      have HALL2 : Hid (want z i ≤ (sect ss ps (f + i)).size → ∀ k, k < i + 1 → 64 * k < z ∧ want z k ≤ (sect ss ps (f + k)).size) := fun h k hk => by
        rcases Nat.lt_or_ge k i with h' | h'
        · exact HALL.out k h'
        · obtain rfl : k = i := by omega
          exact ⟨hlt, h⟩
      have htz : (sect ss ps (f + i)).size ≤ 64 := U8.readOf_size _ ps (by rw [List.getD_eq_getElem?_getD, List.getElem?_eq_getElem (by omega)]; exact n4 _ (List.getElem_mem _)) (fun p hp => (n5 p hp).2.2)
      generalize sect ss ps (f + i) = t at *
      have own1 : owns w2.heap.size (.slice ba (gath ss ps f z i).length bc) (gath ss ps f z i) wn := own_keep hown fun g hg => BN.block g (hown.lt g hg).2
      have B4 := bel2 B3 BN
      have k14 := carry k13 BN
      have bel4 : Below w2.heap.size w2 wn := bel2 hbel BN
      clear q0 q1 k03 k13 hown
      go_wp2_with fail
      refine (min_spec _ _ _).mono ?_
      rintro e w9 ⟨rfl, rfl⟩
      rw [hmin]
      clear hmin
      by_cases hw : want z i ≤ t.size
      · have hw' : ¬ ((t.size : Int) < ((want z i : Nat) : Int)) := by omega
        obtain ⟨i0, hi0, y0, y1, y2⟩ := info_parts info_u8
        go_wp2_with (at_builtin; go_loud (refine Lib.wpList_append_own_string _ rfl _ _ 22 9 rfl w2.heap.size 5 i0 Tryz.underlying22 Tryz.underlying9 hi0 y0 y1 y2 (.slice ba (gath ss ps f z i).length bc) _ _ rfl own1 (t.extract 0 (want z i)) rfl (by unfold maxLen; rw [ByteArray.size_extract]; omega) (by rw [ByteArray.size_extract]; omega) bel4.size ?_); intro v' w5 hown5 hgr5 _)
        have HR : Hid (RelG w2 ss ps f z v' (.int .i64 ((i : Int) + 1)) w5) := RelG.step (by omega) own1 hown5 hgr5 bel4 HS.out (HALL2.out hw)
        go_roundw
        case rel => exact HR.out
        case measure => simp [intOf]; omega
      · have hw' : (t.size : Int) < ((want z i : Nat) : Int) := by omega
        have HA5 : Hid (A = illA 5) := HNO.out hw
        go_wp2_with fail
        refine (U4.ill_spec 5 _).mono ?_
        rintro e wz ⟨rfl, hbz⟩
        obtain ⟨r0, r1, r2, r3, r4, rf, -⟩ := blk5 (carry k14 hbz)
        have HF : Hid (∀ p q r s u, AT w A (.returned (.agg #[.slice none 0 0, .slice none 0 0, .string ⟨#[]⟩, .int .i64 0, .int .i64 5])) (set5 wz (w.heap.size + 1) p q r s u)) := fun p q r s u => by rw [HA5.out]; exact fin_illA (bel2 B4 hbz) (by omega) p q r s u
        go_wp2
        exact bodyPost_ret (v := .agg #[.slice none 0 0, .slice none 0 0, .string ⟨#[]⟩, .int .i64 0, .int .i64 5]) (by simp [results, Tryz.results13, go_sem, r0, r1, r2, r3, r4]) rfl (HF.out _ _ _ _ _)
    · have hl1 : ¬ ((gath ss ps f z i).length : Int) < (z : Int) := by omega
      have HA0 : Hid (A = ⟨ss, ps, ⟨(gath ss ps f z i).toArray⟩, gen, 0⟩) := by
        unfold Hid
        have hside : SideOk ss ps f z := fun k _ hk => (HALL.out k (by omega)).2
        rw [HA.out, if_pos hside, gath_end ss ps f z i (by omega) hi]
      have zlt := lt_some k13
      have hcv := conv_own (w := wr.drew) hown
      have hcopy : ∀ W, Strs W (.slice sa ss.length sc) ss → Pends W vp ps → Calls Tryz.prog 45 #[.agg #[.slice sa ss.length sc, vp]] W fun e w' => DTold W ss ps e w' := fun W h1 h2 => T3.copy_spec _ _ ss ps W h1 h2 (by omega) (by omega)
      clear HALL HA hgl
      go_wp2_with fail
      go_region_with (first
        | (go_at_call 45; refine (hcopy _ (hs.below B3.drew) (hp.below B3.drew)).mono ?_; rintro e wn ⟨ra, rm, ra', rm', rfl, ho, hbn⟩; have BN : Below wr.heap.size wr wn := undrew hbn; have hcv2 := conv_own (w := wn) (own_keep hown fun g hg => BN.block g (hown.lt g hg).2); obtain ⟨r0, r1, r2, r3, r4, rf, r9⟩ := blk5 (carry k13 BN)))
      all_goals
        have HF : Hid (∀ p q r s u, AT w A (.returned (.agg #[.slice ra ss.length rm, .slice ra' ps.length rm', .string ⟨(gath ss ps f z i).toArray⟩, .int .i64 gen, .int .i64 0])) (set5 wn (w.heap.size + 1) p q r s u)) := fun p q r s u => by rw [HA0.out]; exact fin_area (bel2 B3 BN) ho (by omega) zlt p q r s u
        clear ho hcv hcv2 HA0
        go_wp2
        exact bodyPost_ret (v := .agg #[.slice ra ss.length rm, .slice ra' ps.length rm', .string ⟨(gath ss ps f z i).toArray⟩, .int .i64 gen, .int .i64 0]) (by simp [results, Tryz.results13, go_sem, r0, r1, r2, r3, r4]) rfl (HF.out _ _ _ _ _)
end Go.Proofs.YtfiabbfdnmldjaaGreatDoor.V1
