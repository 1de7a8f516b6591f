/-
  The program's reading of a side.
-/
import Derived.Test.YtfiabbfdnmldjaaGreatDoorV3
import Derived.Test.YtfiabbfdnmldjaaGreatDoorPE
import Derived.Test.YtfiabbfdnmldjaaGreatDoorPG
import Derived.WalkMore
namespace Go.Proofs.YtfiabbfdnmldjaaGreatDoor.V5
open Go.RowKit Go.IntWalk
open Go.Proofs.YtfiabbfdnmldjaaGreatDoor.C0 Go.Proofs.YtfiabbfdnmldjaaGreatDoor.C2 Go.Proofs.YtfiabbfdnmldjaaGreatDoor.S0 Go.Proofs.YtfiabbfdnmldjaaGreatDoor.S1 Go.Proofs.YtfiabbfdnmldjaaGreatDoor.S2 Go.Proofs.YtfiabbfdnmldjaaGreatDoor.S3 Go.Proofs.YtfiabbfdnmldjaaGreatDoor.O1 Go.Proofs.YtfiabbfdnmldjaaGreatDoor.T0 Go.Proofs.YtfiabbfdnmldjaaGreatDoor.T1 Go.Proofs.YtfiabbfdnmldjaaGreatDoor.T4 Go.Proofs.YtfiabbfdnmldjaaGreatDoor.T5 Go.Proofs.YtfiabbfdnmldjaaGreatDoor.T6 Go.Proofs.YtfiabbfdnmldjaaGreatDoor.T7 Go.Proofs.YtfiabbfdnmldjaaGreatDoor.T8 Go.Proofs.YtfiabbfdnmldjaaGreatDoor.U0 Go.Proofs.YtfiabbfdnmldjaaGreatDoor.U1 Go.Proofs.YtfiabbfdnmldjaaGreatDoor.U2 Go.Proofs.YtfiabbfdnmldjaaGreatDoor.U4 Go.Proofs.YtfiabbfdnmldjaaGreatDoor.U5 Go.Proofs.YtfiabbfdnmldjaaGreatDoor.U8 Go.Proofs.YtfiabbfdnmldjaaGreatDoor.U9 Go.Proofs.YtfiabbfdnmldjaaGreatDoor.V0 Go.Proofs.YtfiabbfdnmldjaaGreatDoor.V3
open Go.Proofs.YtfiabbfdnmldjaaGreatDoor.Dk (rightB right_iff readOf sect want gath SideOk gath_length gath_end)
set_option maxRecDepth 100000 in
theorem start_impl (a : Option Addr) (n cap s : Nat) (vp : Value) (w : World) (h1 : 1 ≤ n) (h2 : n ≤ 64) (hs : s ≤ 1) : Calls Tryz.prog 100 #[.agg #[.slice a n cap, vp], .int .i64 (s : Nat)] w fun e w' => e = .returned (.int .i64 (firstN n s : Nat)) ∧ Below w.heap.size w w' := by
  have hh := half_le n h2
  have k0 := heap_alloc_new w (.cells #[.slice a n cap, vp] 26)
  have hm : Hid (1 + (s : Int) * (halfN n : Int) = ((firstN n s : Nat) : Int)) := by unfold Hid firstN; simp
  have hb : (s : Int) * (halfN n : Int) ≤ 31 := by
    rcases (show s = 0 ∨ s = 1 by omega) with rfl | rfl
    · simp
    · simp; omega
  have hb0 : 0 ≤ (s : Int) * (halfN n : Int) := Int.mul_nonneg (by omega) (by omega)
  go_enter Tryz.func100, Tryz.ntmps100
  go_wp2_with fail
  refine (half_impl _ _ _ _ _ h1 h2).mono ?_
  rintro e w1 ⟨rfl, hb1⟩
  go_wp2
  go_ret
  exact ⟨ret_int hm.out, bel2 (albel _ _) hb1⟩
theorem made0 (w : World) : (Instr.makeSlice 22 (.int .i64 0) (.int .i64 0)).run Tryz.prog w = .ok (.slice (some ⟨w.heap.size, 0, none⟩) 0 0) (w.alloc (.cells #[] 5)) := by kernel_rfl
set_option maxHeartbeats 800000 in
set_option maxRecDepth 100000 in
theorem joined_nil (w : World) : Calls Tryz.prog 96 #[.slice none 0 0] w fun e w' => e = .returned (.string ⟨#[]⟩) ∧ Below w.heap.size w w' := by
  have hmk := made0
  go_enter Tryz.func96, Tryz.ntmps96
  go_wp2_with fail
  go_loop [3, 12] (fun s i => i = .int .i64 0 ∧ s = .int .i64 0) (fun _ _ => 0)
  case atStart => exact ⟨rfl, rfl⟩
  case round =>
    obtain ⟨rfl, rfl⟩ := hrel
    go_wp2
    go_loopw [7, 25] (fun a i wr => i = .int .i64 0 ∧ a = .int .i64 0 ∧ wr = w.alloc (.cells #[] 5)) (fun _ _ _ => 0)
    case atStart => exact ⟨rfl, rfl, rfl⟩
    case round =>
      obtain ⟨rfl, rfl, rfl⟩ := hrel
      have hconv := conv_own (owns_lit0 w.heap.size w (Nat.le_refl _))
      go_wp2
      go_ret
      exact ⟨rfl, albel _ _⟩
theorem ext_list (s : ByteArray) (k : Nat) : (s.extract 0 k).data.toList = s.data.toList.take k := by
  rw [ByteArray.data_extract]; simp
/-- What is taken of the first i sectors. -/
def partsL (ss : List ByteArray) (ps : List Pend) (f z i : Nat) : List ByteArray := (List.range i).map fun k => (sect ss ps (f + k)).extract 0 (want z k)
theorem partsL_succ (ss : List ByteArray) (ps : List Pend) (f z i : Nat) : partsL ss ps f z (i + 1) = partsL ss ps f z i ++ [(sect ss ps (f + i)).extract 0 (want z i)] := by simp [partsL, List.range_succ]
theorem partsL_length (ss : List ByteArray) (ps : List Pend) (f z i : Nat) : (partsL ss ps f z i).length = i := by simp [partsL]
theorem cat_snoc : ∀ (l : List ByteArray) (s : ByteArray), cat (l ++ [s]) = cat l ++ s.data.toList
  | [], s => by simp [cat]
  | x :: l, s => by simp [cat, cat_snoc l s]
theorem cat_parts (ss : List ByteArray) (ps : List Pend) (f z : Nat) : ∀ i, cat (partsL ss ps f z i) = gath ss ps f z i
  | 0 => rfl
  | i + 1 => by rw [partsL_succ, cat_snoc, cat_parts ss ps f z i, ext_list]; rfl
theorem gath_le (ss : List ByteArray) (ps : List Pend) (f z : Nat) : ∀ i, (gath ss ps f z i).length ≤ 64 * i
  | 0 => by simp [gath]
  | i + 1 => by
    have := gath_le ss ps f z i
    simp only [gath, List.length_append, List.length_take]
    unfold want
    omega
theorem total_parts (ss : List ByteArray) (ps : List Pend) (f z i : Nat) : total (partsL ss ps f z i) ≤ 64 * i := by
  rw [← cat_length, cat_parts]; exact gath_le ss ps f z i
theorem joined_strs (v : Value) (l : List ByteArray) (w : World) (hs : Strs w v l) (h0 : l.length = 0 → v = .slice none 0 0) (hl : l.length ≤ 1000) (ht : total l ≤ 1000000) :
    Calls Tryz.prog 96 #[v] w fun e w' => e = .returned (.string ⟨(cat l).toArray⟩) ∧ Below w.heap.size w w' := by
  rcases Nat.eq_zero_or_pos l.length with h | h
  · obtain rfl := h0 h
    obtain rfl : l = [] := List.eq_nil_of_length_eq_zero h
    exact joined_nil w
  · obtain ⟨a, cap, rfl, -, hc⟩ := hs
    obtain ⟨b, off, rfl, hb, hcc⟩ := hc h
    refine joined_any b off l.length cap l w rfl hb hl ht (fun j hj => ?_)
    rw [hcc j _ (List.getElem?_eq_getElem hj)]
    simp [List.getD, hj]
/-- So far: i sectors are taken. -/
def RelT (W : World) (ss : List ByteArray) (ps : List Pend) (f z : Nat) (x y p : Value) (wr : World) : Prop :=
  ∃ (i : Nat) (a : Option Addr) (c : Nat), i ≤ 32 ∧ x = .int .i64 ((f + i : Nat) : Int) ∧ y = .int .i64 ((z - 64 * i : Nat) : Int) ∧ (∀ k, k < i → 64 * k < z ∧ want z k ≤ (sect ss ps (f + k)).size) ∧ p = .slice a (partsL ss ps f z i).length c ∧ (i = 0 → p = .slice none 0 0) ∧ OStrs W.heap.size wr p (partsL ss ps f z i) ∧ Below W.heap.size W wr
theorem RelT.step {W wr X w5 : World} {ss : List ByteArray} {ps : List Pend} {f z i g cap N : Nat} {v : Value} {t : ByteArray} (hN : want z i = N) (hi : i + 1 ≤ 32) (own1 : OStrs W.heap.size wr v (partsL ss ps f z i)) (al : Below wr.heap.size wr X)
    (hown5 : w5.ownsRow W.heap.size 9 1 (.slice (some ⟨g, 0, none⟩) ((partsL ss ps f z i).length + 1) cap) ((partsL ss ps f z i).length + 1) (cs (partsL ss ps f z i) ++ [.string (t.extract 0 N)]))
    (hgr : X.grownBy w5 v.ownBlock) (bel : Below W.heap.size W wr) (ht : sect ss ps (f + i) = t) (hall : ∀ k, k < i + 1 → 64 * k < z ∧ want z k ≤ (sect ss ps (f + k)).size) (x y : Int) (hx : x = ((f + (i + 1) : Nat) : Int)) (hy : y = ((z - 64 * (i + 1) : Nat) : Int)) :
    RelT W ss ps f z (.int .i64 x) (.int .i64 y) (.slice (some ⟨g, 0, none⟩) ((partsL ss ps f z i).length + 1) cap) w5 := by
  subst hN ht hx hy
  have hl : (partsL ss ps f z (i + 1)).length = (partsL ss ps f z i).length + 1 := by rw [partsL_length, partsL_length]
  refine ⟨i + 1, some ⟨g, 0, none⟩, cap, hi, rfl, rfl, hall, by rw [hl], fun h => absurd h (by omega), ?_, ?_⟩
  · unfold OStrs
    rw [hl, partsL_succ]
    simpa [cs] using hown5
  · exact (bel.trans (al.mono bel.size)).grown hgr (Nat.le_trans bel.size al.size) (fun q hq => (own1.lt q hq).1)
set_option maxRecDepth 100000 in
set_option maxHeartbeats 1600000 in
theorem side_any (a1 a3 a5 a9 : Addr) (ss : List ByteArray) (ps : List Pend) (hR : rightB ss ps = true) : SideTold a1 a3 a5 a9 ss ps := by
  intro g s z vs vp w hS hs hp hs1 hz1
  obtain ⟨sa, sc, rfl⟩ : ∃ a c, vs = .slice a ss.length c := hs.len
  obtain ⟨n1, n2, n3, n4, n5⟩ := (right_iff ss ps).1 hR
  have hh31 := half_le _ n2
  have hfb : firstN ss.length s + halfN ss.length ≤ ss.length := by
    unfold firstN halfN
    rcases (show s = 0 ∨ s = 1 by omega) with rfl | rfl <;> omega
  obtain ⟨k0, k1, b0, z0⟩ := T5.k_box w (.cells #[.slice sa ss.length sc, vp] 26) (.cells #[.int .i64 g, .int .i64 (s : Nat), .int .i64 (z : Nat)] 57)
  have hmf : ∀ (fn : Fn) (first cap : Array Value) (w : World), (Instr.makeFunc fn first cap).run Tryz.prog w = .ok (.func fn first cap) w := fun _ _ _ _ => rfl
  have hst : ∀ W, Calls Tryz.prog 100 #[.agg #[.slice sa ss.length sc, vp], .int .i64 (s : Nat)] W fun e w' => e = .returned (.int .i64 (firstN ss.length s : Nat)) ∧ Below W.heap.size W w' := fun W => start_impl sa ss.length sc s vp W n1 n2 hs1
  generalize firstN ss.length s = f at *
  go_enter Tryz.func72, Tryz.ntmps72
  go_wp2_with fail
  go_step3
  go_wp2_with fail
  refine (atWork_any _ _ ss ps _ (hs.below b0) (hp.below b0) n2 n3).mono ?_
  rintro e w1 ⟨a, c, m, n, rfl, o1, m1, hn, hm, hb1⟩
  have B1 := bel2 b0 hb1
  have k01 := carry k0 hb1
  have k11 := carry k1 hb1
  obtain ⟨q0, q1, -, -⟩ := blk2 k01
  obtain ⟨y0, y1, y2, -, -⟩ := blk3 k11
  clear k0 k1 hb1 b0
  go_wp2_with fail
  refine (hst _).mono ?_
  rintro e w2 ⟨rfl, hb2⟩
  have B2 := bel2 B1 hb2
  have k12 := carry k11 hb2
  have m2 := m1.below hb2
  have o2 := o1.below hb2
  clear q0 q1 y0 y1 y2 k01 k11 hb2 m1 o1 hst
  obtain ⟨y0, y1, y2, -, -⟩ := blk3 k12
  have H0 : Hid (RelT w2 ss ps f z (.int .i64 (f : Nat)) (.int .i64 (z : Nat)) (.slice none 0 0) w2) := ⟨0, none, 0, by omega, rfl, rfl, fun k hk => absurd hk (by omega), rfl, fun _ => rfl, World.ownsRow_nil _ _ _ _, Below.refl _ _⟩
  go_wp2_with fail
  go_step3
  go_wp2_with fail
  go_loopw [7, 8, 9] (fun x y p wr => RelT w2 ss ps f z x y p wr) (fun _ y _ _ => (intOf y).toNat)
  case atStart => exact H0.out
  case round =>
    clear H0
    obtain ⟨i, pa, pc, hi, rfl, rfl, hall, rfl, hnil, hown, hbel⟩ := hrel
    have HALL : Hid (∀ k, k < i → 64 * k < z ∧ want z k ≤ (sect ss ps (f + k)).size) := hall
    clear hall
    have B3 := bel2 B2 hbel
    by_cases hlt : 64 * i < z
    · obtain ⟨t0, ht0⟩ : ∃ t, ss[f + i]? = some t := ⟨_, List.getElem?_eq_getElem (by omega)⟩
      have hse : sect ss ps (f + i) = readOf t0 ps ((f + i : Nat) : Int) := by
        unfold sect
        rw [List.getD_eq_getElem?_getD, ht0]; rfl
      have hread := read_any a c m n ss ps (f + i) t0 wr (o2.below hbel).strs (m2.below hbel) n3 ht0 n2
      rw [← hse, show ((f + i : Nat) : Int) = (f : Int) + (i : Int) by omega] at hread
      have hne : ((((z - 64 * i : Nat) : Int)) == 0) = false := by rw [beq_eq_false_iff_ne]; omega
      by_cases h64 : z - 64 * i ≤ 64
      · have hN : want z i = z - 64 * i := by unfold want; omega
        have h64' : ((z - 64 * i : Nat) : Int) ≤ 64 := by omega
        go_wp2_with fail
        refine hread.mono ?_
        rintro e w4 ⟨rfl, hb4⟩
        have B4 := bel2 B3 hb4
        have bel4 := bel2 hbel hb4
        have own4 := hown.below hb4
        have htz : (sect ss ps (f + i)).size ≤ 64 := U8.readOf_size _ ps (by rw [List.getD_eq_getElem?_getD, List.getElem?_eq_getElem (by omega)]; exact n4 _ (List.getElem_mem _)) (fun p hp => (n5 p hp).2.2)
        have HNO : Hid (¬ want z i ≤ (sect ss ps (f + i)).size → ¬ SideOk ss ps f z) := fun h hs => h (hs i (by omega) hlt)
        have HALL2 : Hid (want z i ≤ (sect ss ps (f + i)).size → ∀ k, k < i + 1 → 64 * k < z ∧ want z k ≤ (sect ss ps (f + k)).size) := fun h k hk => by
          rcases Nat.lt_or_ge k i with h' | h'
          · exact HALL.out k h'
          · obtain rfl : k = i := by omega
            exact ⟨hlt, h⟩
        obtain ⟨t, HST⟩ : ∃ t, Hid (sect ss ps (f + i) = t) := ⟨_, rfl⟩
        rw [HST.out] at htz HNO HALL2 ⊢
        clear hread hb4 HALL ht0 hse
        by_cases hw : (z - 64 * i) ≤ t.size
        · have hw' : ¬ ((t.size : Int) < ((z - 64 * i : Nat) : Int)) := by omega
          have HALL3 : Hid (∀ k, k < i + 1 → 64 * k < z ∧ want z k ≤ (sect ss ps (f + k)).size) := HALL2.out (by omega)
          have hown5 : w4.ownsRow w2.heap.size 9 1 _ _ _ := own4
          have hown6 : (w4.alloc (.cells #[.string (t.extract 0 ((z - 64 * i)))] 9)).ownsRow w2.heap.size 9 1 _ _ _ := own4.below (albel w4 _)
          have HE : Hid ((w4.alloc (.cells #[.string (t.extract 0 ((z - 64 * i)))] 9)).heap[w4.heap.size]? = some (.cells #[.string (t.extract 0 ((z - 64 * i)))] 9)) := heap_alloc_new w4 _
          have hzw : Hid (w2.heap.size ≤ w4.heap.size) := bel4.size
          have hpl : (partsL ss ps f z i).length ≤ 32 := by rw [partsL_length]; exact hi
          obtain ⟨j0, hj, hy0, hy1, hy2⟩ := info_parts info_str
          go_wp2_with (first
            | (at_builtin; refine wpList_append_lies _ rfl _ _ 23 rfl w2.heap.size 9 j0 (.string ⟨#[]⟩) 1 16 Tryz.underlying23 hj hy0 hy1 hy2 rfl (by decide) _ (partsL ss ps f z i).length (cs (partsL ss ps f z i)) rfl hown6 ⟨w4.heap.size, 0, none⟩ 1 1 [.string (t.extract 0 ((z - 64 * i)))] rfl rfl (World.news_of_block HE.out) (by intro u hu; simp at hu; subst hu; rfl) (by decide) (by unfold maxLen; omega) (by omega) (by simp; have := hzw.out; omega) _ rfl ?_; intro g5 cap5 w5 hown7 hg7 hat7 hlt7))
          have HX : ∀ x y : Int, x = ((f + (i + 1) : Nat) : Int) → y = ((z - 64 * (i + 1) : Nat) : Int) → Hid (RelT w2 ss ps f z (.int .i64 x) (.int .i64 y) (.slice (some ⟨g5, 0, none⟩) ((partsL ss ps f z i).length + 1) cap5) w5) := fun x y hx hy => RelT.step hN (by omega) own4 (albel _ _) hown7 hg7 bel4 HST.out HALL3.out x y hx hy
          go_roundw
          case rel => exact (HX _ _ (by omega) (by omega)).out
          case measure => simp [intOf]; omega
        · have hw' : ((t.size : Int) < ((z - 64 * i : Nat) : Int)) := by omega
          have c5 := (hS.below B4).c5
          have HF : Hid (∃ t' err, (Ending.returned (.tuple #[.string ⟨#[]⟩, sent a5])) = .returned (.tuple #[.string t', err]) ∧ IsErr a1 a3 a5 a9 err (if SideOk ss ps f z then 0 else 5) ∧ (SideOk ss ps f z → t' = ⟨(gath ss ps f z 32).toArray⟩)) := ⟨_, _, rfl, by rw [if_neg (HNO.out (by omega))]; exact .lack, fun h => absurd h (HNO.out (by omega))⟩
          have HB : Hid (Below w.heap.size w w4.drew) := B4.drew
          go_wp2
          go_region
          all_goals
            go_wp2
            rw [Exit.noGoto_ret]
            exact bodyPost_ret (v := .tuple #[.string ⟨#[]⟩, sent a5]) (by simp [results, Tryz.results72, go_sem]) rfl ⟨HF.out, HB.out⟩
      · have hN : want z i = 64 := by unfold want; omega
        have h64' : ¬ ((z - 64 * i : Nat) : Int) ≤ 64 := by omega
        go_wp2_with fail
        refine hread.mono ?_
        rintro e w4 ⟨rfl, hb4⟩
        have B4 := bel2 B3 hb4
        have bel4 := bel2 hbel hb4
        have own4 := hown.below hb4
        have htz : (sect ss ps (f + i)).size ≤ 64 := U8.readOf_size _ ps (by rw [List.getD_eq_getElem?_getD, List.getElem?_eq_getElem (by omega)]; exact n4 _ (List.getElem_mem _)) (fun p hp => (n5 p hp).2.2)
        have HNO : Hid (¬ want z i ≤ (sect ss ps (f + i)).size → ¬ SideOk ss ps f z) := fun h hs => h (hs i (by omega) hlt)
        have HALL2 : Hid (want z i ≤ (sect ss ps (f + i)).size → ∀ k, k < i + 1 → 64 * k < z ∧ want z k ≤ (sect ss ps (f + k)).size) := fun h k hk => by
          rcases Nat.lt_or_ge k i with h' | h'
          · exact HALL.out k h'
          · obtain rfl : k = i := by omega
            exact ⟨hlt, h⟩
        obtain ⟨t, HST⟩ : ∃ t, Hid (sect ss ps (f + i) = t) := ⟨_, rfl⟩
        rw [HST.out] at htz HNO HALL2 ⊢
        clear hread hb4 HALL ht0 hse
        by_cases hw : 64 ≤ t.size
        · have hw' : ¬ ((t.size : Int) < 64) := by omega
          have HALL3 : Hid (∀ k, k < i + 1 → 64 * k < z ∧ want z k ≤ (sect ss ps (f + k)).size) := HALL2.out (by omega)
          have hown5 : w4.ownsRow w2.heap.size 9 1 _ _ _ := own4
          have hown6 : (w4.alloc (.cells #[.string (t.extract 0 (64))] 9)).ownsRow w2.heap.size 9 1 _ _ _ := own4.below (albel w4 _)
          have HE : Hid ((w4.alloc (.cells #[.string (t.extract 0 (64))] 9)).heap[w4.heap.size]? = some (.cells #[.string (t.extract 0 (64))] 9)) := heap_alloc_new w4 _
          have hzw : Hid (w2.heap.size ≤ w4.heap.size) := bel4.size
          have hpl : (partsL ss ps f z i).length ≤ 32 := by rw [partsL_length]; exact hi
          obtain ⟨j0, hj, hy0, hy1, hy2⟩ := info_parts info_str
          go_wp2_with (first
            | (at_builtin; refine wpList_append_lies _ rfl _ _ 23 rfl w2.heap.size 9 j0 (.string ⟨#[]⟩) 1 16 Tryz.underlying23 hj hy0 hy1 hy2 rfl (by decide) _ (partsL ss ps f z i).length (cs (partsL ss ps f z i)) rfl hown6 ⟨w4.heap.size, 0, none⟩ 1 1 [.string (t.extract 0 (64))] rfl rfl (World.news_of_block HE.out) (by intro u hu; simp at hu; subst hu; rfl) (by decide) (by unfold maxLen; omega) (by omega) (by simp; have := hzw.out; omega) _ rfl ?_; intro g5 cap5 w5 hown7 hg7 hat7 hlt7))
          have HX : ∀ x y : Int, x = ((f + (i + 1) : Nat) : Int) → y = ((z - 64 * (i + 1) : Nat) : Int) → Hid (RelT w2 ss ps f z (.int .i64 x) (.int .i64 y) (.slice (some ⟨g5, 0, none⟩) ((partsL ss ps f z i).length + 1) cap5) w5) := fun x y hx hy => RelT.step hN (by omega) own4 (albel _ _) hown7 hg7 bel4 HST.out HALL3.out x y hx hy
          go_roundw
          case rel => exact (HX _ _ (by omega) (by omega)).out
          case measure => simp [intOf]; omega
        · have hw' : ((t.size : Int) < 64) := by omega
          have c5 := (hS.below B4).c5
          have HF : Hid (∃ t' err, (Ending.returned (.tuple #[.string ⟨#[]⟩, sent a5])) = .returned (.tuple #[.string t', err]) ∧ IsErr a1 a3 a5 a9 err (if SideOk ss ps f z then 0 else 5) ∧ (SideOk ss ps f z → t' = ⟨(gath ss ps f z 32).toArray⟩)) := ⟨_, _, rfl, by rw [if_neg (HNO.out (by omega))]; exact .lack, fun h => absurd h (HNO.out (by omega))⟩
          have HB : Hid (Below w.heap.size w w4.drew) := B4.drew
          go_wp2
          go_region
          all_goals
            go_wp2
            rw [Exit.noGoto_ret]
            exact bodyPost_ret (v := .tuple #[.string ⟨#[]⟩, sent a5]) (by simp [results, Tryz.results72, go_sem]) rfl ⟨HF.out, HB.out⟩
    · have e0 : ((z - 64 * i : Nat) : Int) = 0 := by omega
      rw [e0]
      go_wp2_with fail
      refine (joined_strs _ _ _ hown.strs (fun h => hnil (by rw [partsL_length] at h; exact h)) (by rw [partsL_length]; omega) (by have := total_parts ss ps f z i; omega)).mono ?_
      rintro e w5 ⟨rfl, hb5⟩
      rw [cat_parts]
      have HF : Hid (∃ t' err, (Ending.returned (.tuple #[.string ⟨(gath ss ps f z i).toArray⟩, .nilIface])) = .returned (.tuple #[.string t', err]) ∧ IsErr a1 a3 a5 a9 err (if SideOk ss ps f z then 0 else 5) ∧ (SideOk ss ps f z → t' = ⟨(gath ss ps f z 32).toArray⟩)) :=
        ⟨_, _, rfl, by rw [if_pos (show SideOk ss ps f z from fun k _ hk => (HALL.out k (by omega)).2)]; exact .none, fun _ => by rw [gath_end ss ps f z i (by omega) hi]⟩
      have HB : Hid (Below w.heap.size w w5) := bel2 B3 hb5
      go_wp2
      rw [Exit.noGoto_ret]
      exact bodyPost_ret (v := .tuple #[.string ⟨(gath ss ps f z i).toArray⟩, .nilIface]) (by simp [results, Tryz.results72, go_sem]) rfl ⟨HF.out, HB.out⟩
end Go.Proofs.YtfiabbfdnmldjaaGreatDoor.V5
