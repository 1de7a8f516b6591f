/-
  The text of a line, and the link behind another one, in the specification.
-/
import Derived.Test.YtkpjdmmgdmbmnaaDoorA1
import Derived.Deep.DeepCutAuto
import Derived.Test.YtkpjdmmgdmbmnaaDoorQB
namespace Go.Proofs.YtkpjdmmgdmbmnaaDoor.A2
open Go.RowKit
open Go.Proofs.YtkpjdmmgdmbmnaaDoor.C0 Go.Proofs.YtkpjdmmgdmbmnaaDoor.HB
open Go.Proofs.YtkpjdmmgdmbmnaaDoor.A0 Go.Proofs.YtkpjdmmgdmbmnaaDoor.A1
def numL (n : Int) : ByteArray := ⟨(Mb.putNum n).toArray⟩
def textL (s : ByteArray) : ByteArray := ⟨(C3.putText s).toArray⟩
theorem numL_size (n : Int) : (numL n).size ≤ 10 := by unfold numL; rw [C3.size_mk]; exact C3.putNum_len n
theorem textL_size (s : ByteArray) : (textL s).size ≤ 8010 ∧ (textL s).size ≤ 10 + s.size := by
  unfold textL
  rw [C3.size_mk]
  unfold C3.putText
  split
  · exact ⟨Nat.zero_le _, Nat.zero_le _⟩
  · have := C3.putNum_len (s.size : Int)
    have e : s.data.toList.length = s.size := by rw [Array.length_toList]; rfl
    rw [List.length_append]
    omega
def baseT (x : Ln) : ByteArray := ((numL x.kind ++ textL x.name) ++ textL x.sum) ++ numL (x.cards.length : Int)
def upT (x : Ln) : Nat → ByteArray
  | 0 => baseT x
  | k + 1 => upT x k ++ numL (iAt x.cards k)
def lineT (x : Ln) : ByteArray := upT x x.cards.length
theorem baseT_size (x : Ln) : (baseT x).size ≤ 16040 ∧ (baseT x).size ≤ 40 + x.name.size + x.sum.size := by
  unfold baseT
  have a := numL_size x.kind
  have b := textL_size x.name
  have c := textL_size x.sum
  have d := numL_size (x.cards.length : Int)
  simp only [ByteArray.size_append]
  omega
theorem upT_size (x : Ln) : ∀ k, (upT x k).size ≤ (baseT x).size + 10 * k
  | 0 => Nat.le_refl _
  | k + 1 => by
    have := upT_size x k
    have := numL_size (iAt x.cards k)
    unfold upT
    rw [ByteArray.size_append]
    omega
theorem blk4 {w : World} {g : Nat} {a b c d : Value} {T : TypeId} (h : w.heap[g]? = some (.cells #[a, b, c, d] T (0, 0))) : w.cell? ⟨g, 0, none⟩ = some a ∧ w.cell? ⟨g, 1, none⟩ = some b ∧ w.cell? ⟨g, 2, none⟩ = some c ∧ w.cell? ⟨g, 3, none⟩ = some d :=
  ⟨by simp [World.cell?, h], by simp [World.cell?, h], by simp [World.cell?, h], by simp [World.cell?, h]⟩
set_option maxRecDepth 100000 in
set_option maxHeartbeats 3200000 in
theorem text_spec (x : Ln) (vc : Value) (w : World) (hv : IRow w vc x.cards) (hn : x.name.size ≤ maxLen) (hs : x.sum.size ≤ maxLen) (hk1 : -9223372036854775808 ≤ x.kind) (hk2 : x.kind ≤ 9223372036854775807)
    (hcs : ∀ c ∈ x.cards, -9223372036854775808 ≤ c ∧ c ≤ 9223372036854775807) (hl : x.cards.length ≤ 100000) :
    Calls Tryd.prog 51 #[lnV x vc] w fun e w' => e = .returned (.string (lineT x)) ∧ Below w.heap.size w w' := by
  have k0 := heap_alloc_new w (.cells #[.int .i64 x.kind, .string x.name, .string x.sum, vc] 29)
  have B0 : Hid (Below w.heap.size w (w.alloc (.cells #[.int .i64 x.kind, .string x.name, .string x.sum, vc] 29))) := albel w _
  have hbs := baseT_size x
  have hus := upT_size x
  have z0 := numL_size x.kind
  have z1 := (textL_size x.name).1
  have z2 := (textL_size x.sum).1
  have z3 := numL_size (x.cards.length : Int)
  have HBT : Hid (baseT x = ((numL x.kind ++ textL x.name) ++ textL x.sum) ++ numL (x.cards.length : Int)) := rfl
  have C0' : Hid (∀ W, Calls Tryd.prog 84 #[.int .i64 x.kind] W fun e w' => e = .returned (.string (numL x.kind)) ∧ Below W.heap.size W w') := fun W => C1.put_spec x.kind W hk1 hk2
  have C1' : Hid (∀ W, Calls Tryd.prog 85 #[.string x.name] W fun e w' => e = .returned (.string (textL x.name)) ∧ Below W.heap.size W w') := fun W => C3.put_spec x.name W hn
  have C2' : Hid (∀ W, Calls Tryd.prog 85 #[.string x.sum] W fun e w' => e = .returned (.string (textL x.sum)) ∧ Below W.heap.size W w') := fun W => C3.put_spec x.sum W hs
  have C3' : Hid (∀ W, Calls Tryd.prog 84 #[.int .i64 (x.cards.length : Int)] W fun e w' => e = .returned (.string (numL (x.cards.length : Int))) ∧ Below W.heap.size W w') := fun W => C1.put_spec _ W (by omega) (by omega)
  have C4' : Hid (∀ k, k < x.cards.length → ∀ W, Calls Tryd.prog 84 #[.int .i64 (iAt x.cards k)] W fun e w' => e = .returned (.string (numL (iAt x.cards k))) ∧ Below W.heap.size W w') := fun k hk W => by
    have hm := hcs _ (List.mem_of_getElem? (iAt_get hk))
    exact C1.put_spec _ W hm.1 hm.2
  have HUP : Hid (∀ k, upT x (k + 1) = upT x k ++ numL (iAt x.cards k)) := fun _ => rfl
  have HZ : ∀ k, k < x.cards.length → (upT x k).size + (numL (iAt x.cards k)).size ≤ 9223372036854775807 := fun k hk => by have := hus k; have := numL_size (iAt x.cards k); omega
  have HU0 : Hid (upT x 0 = baseT x) := rfl
  unfold lnV lineT
  obtain ⟨kind, name, sum, cs⟩ := x
  dsimp only at *
  obtain ⟨a, cap, rfl, hlm, hc⟩ := hv
  unfold maxLen at hlm hn hs
  generalize upT ⟨kind, name, sum, cs⟩ = U at *
  generalize baseT ⟨kind, name, sum, cs⟩ = bt at *
  generalize numL kind = p0 at *
  generalize textL name = p1 at *
  generalize textL sum = p2 at *
  generalize numL (cs.length : Int) = p3 at *
  have a1 : ¬ 9223372036854775807 < p0.size + p1.size := by omega
  have a2 : ¬ 9223372036854775807 < (p0 ++ p1).size + p2.size := by rw [ByteArray.size_append]; omega
  have a3 : ¬ 9223372036854775807 < ((p0 ++ p1) ++ p2).size + p3.size := by simp only [ByteArray.size_append]; omega
  have s2 : (p0 ++ p1).size = p0.size + p1.size := ByteArray.size_append
  have s3 : ((p0 ++ p1) ++ p2).size = p0.size + p1.size + p2.size := by simp only [ByteArray.size_append]
  have a4 : ¬ 9223372036854775807 < p0.size + p1.size + p2.size := by omega
  have a5 : ¬ 9223372036854775807 < p0.size + p1.size + p2.size + p3.size := by omega
  clear hbs hus z0 z1 z2 z3 hk1 hk2 hcs
  go_enter Tryd.func51, Tryd.ntmps51
  go_wp2_with fail
  generalize w.alloc (.cells #[.int .i64 kind, .string name, .string sum, .slice a cs.length cap] 29) = W1 at *
  have KF : Hid (∀ y, Below W1.heap.size W1 y → (y.cell? ⟨w.heap.size, 0, none⟩ = some (.int .i64 kind) ∧ y.cell? ⟨w.heap.size, 1, none⟩ = some (.string name) ∧ y.cell? ⟨w.heap.size, 2, none⟩ = some (.string sum) ∧ y.cell? ⟨w.heap.size, 3, none⟩ = some (.slice a cs.length cap))) := fun y hy => blk4 (carry k0 hy)
  go_cut [3] (fun s y => s = .string bt ∧ Below W1.heap.size W1 y)
  case first =>
    have hb0 : Below W1.heap.size W1 W1.drew := (Below.refl _ _).drew
    refine wp_region_held_drew (S := (fun y => y.cell? ⟨w.heap.size, 0, none⟩ = some (.int .i64 kind) ∧ y.cell? ⟨w.heap.size, 1, none⟩ = some (.string name) ∧ y.cell? ⟨w.heap.size, 2, none⟩ = some (.string sum) ∧ y.cell? ⟨w.heap.size, 3, none⟩ = some (.slice a cs.length cap))) (by kernel_rfl) (KF.out _ hb0) (fun hHeld => ?_)
    clear hc k0
    refine TK.take_at 0 (some 5) (v := ?va0) rfl rfl (by kernel_rfl) (by kernel_rfl) (by kernel_rfl) (fun _ _ _ h => h) (Or.inl ⟨rfl, ?ha0⟩) hHeld ?ra0
    case ha0 => intro wq hSw; (try dsimp only at hSw); go_simp; all_goals (with_reducible rfl)
    try simp only [Act.put, List.setIfInBounds_toArray, List.set_cons_zero, List.set_cons_succ]
    refine TK.take_at 1 (some 6) (v := ?va1) rfl rfl (by kernel_rfl) (by kernel_rfl) (by kernel_rfl) (fun _ _ _ h => h) (Or.inl ⟨rfl, ?ha1⟩) hHeld ?ra1
    case ha1 => intro wq hSw; (try dsimp only at hSw); go_simp; all_goals (with_reducible rfl)
    try simp only [Act.put, List.setIfInBounds_toArray, List.set_cons_zero, List.set_cons_succ]
    refine TK.take_at 3 (some 8) (v := ?va3) rfl rfl (by kernel_rfl) (by kernel_rfl) (by kernel_rfl) (fun _ _ _ h => h) (Or.inl ⟨rfl, ?ha3⟩) hHeld ?ra3
    case ha3 => intro wq hSw; (try dsimp only at hSw); go_simp; all_goals (with_reducible rfl)
    try simp only [Act.put, List.setIfInBounds_toArray, List.set_cons_zero, List.set_cons_succ]
    refine TK.take_at 4 (some 9) (v := ?va4) rfl rfl (by kernel_rfl) (by kernel_rfl) (by kernel_rfl) (fun _ _ _ h => h) (Or.inl ⟨rfl, ?ha4⟩) hHeld ?ra4
    case ha4 => intro wq hSw; (try dsimp only at hSw); go_simp; all_goals (with_reducible rfl)
    try simp only [Act.put, List.setIfInBounds_toArray, List.set_cons_zero, List.set_cons_succ]
    refine TK.take_at 7 (some 12) (v := ?va7) rfl rfl (by kernel_rfl) (by kernel_rfl) (by kernel_rfl) (fun _ _ _ h => h) (Or.inl ⟨rfl, ?ha7⟩) hHeld ?ra7
    case ha7 => intro wq hSw; (try dsimp only at hSw); go_simp; all_goals (with_reducible rfl)
    try simp only [Act.put, List.setIfInBounds_toArray, List.set_cons_zero, List.set_cons_succ]
    refine TK.take_at 8 (some 13) (v := ?va8) rfl rfl (by kernel_rfl) (by kernel_rfl) (by kernel_rfl) (fun _ _ _ h => h) (Or.inl ⟨rfl, ?ha8⟩) hHeld ?ra8
    case ha8 => intro wq hSw; (try dsimp only at hSw); go_simp; all_goals (with_reducible rfl)
    try simp only [Act.put, List.setIfInBounds_toArray, List.set_cons_zero, List.set_cons_succ]
    refine TK.take_at 11 (some 16) (v := ?va11) rfl rfl (by kernel_rfl) (by kernel_rfl) (by kernel_rfl) (fun _ _ _ h => h) (Or.inl ⟨rfl, ?ha11⟩) hHeld ?ra11
    case ha11 => intro wq hSw; (try dsimp only at hSw); go_simp; all_goals (with_reducible rfl)
    try simp only [Act.put, List.setIfInBounds_toArray, List.set_cons_zero, List.set_cons_succ]
    refine TK.take_at 12 (some 17) (v := ?va12) rfl rfl (by kernel_rfl) (by kernel_rfl) (by kernel_rfl) (fun _ _ _ h => h) (Or.inl ⟨rfl, ?ha12⟩) hHeld ?ra12
    case ha12 => intro wq hSw; (try dsimp only at hSw); go_simp; all_goals (with_reducible rfl)
    try simp only [Act.put, List.setIfInBounds_toArray, List.set_cons_zero, List.set_cons_succ]
    refine TK.take_at 13 (some 18) (v := ?va13) rfl rfl (by kernel_rfl) (by kernel_rfl) (by kernel_rfl) (fun _ _ _ h => h) (Or.inl ⟨rfl, ?ha13⟩) hHeld ?ra13
    case ha13 => intro wq hSw; (try dsimp only at hSw); go_simp; all_goals (with_reducible rfl)
    try simp only [Act.put, List.setIfInBounds_toArray, List.set_cons_zero, List.set_cons_succ]
    refine wpAnyH_ready (rs := [2]) (by kernel_rfl) (by simp) ?_
    refine AllReadyH.cons rfl (fun K hK => ?_) AllReadyH.nil
    go_simp
    (go_at_call 84; refine (C0'.out _).mono ?_; rintro e x1 ⟨rfl, hq⟩; have hb0 := bel2 hb0 hq; clear hq)
    try (go_wp2_with fail)
    refine hK.out _ _ ?_ (fun hHeld => ?_)
    · exact KF.out _ hb0
    clear hK K
    try simp only [Act.put, List.setIfInBounds_toArray, List.set_cons_zero, List.set_cons_succ]
    refine wpAnyH_ready (rs := [5]) (by kernel_rfl) (by simp) ?_
    refine AllReadyH.cons rfl (fun K hK => ?_) AllReadyH.nil
    go_simp
    (go_at_call 85; refine (C1'.out _).mono ?_; rintro e x2 ⟨rfl, hq⟩; have hb0 := bel2 hb0 hq; clear hq)
    try (go_wp2_with fail)
    refine hK.out _ _ ?_ (fun hHeld => ?_)
    · exact KF.out _ hb0
    clear hK K
    try simp only [Act.put, List.setIfInBounds_toArray, List.set_cons_zero, List.set_cons_succ]
    refine TK.take_at 6 (some 11) (v := ?va6) rfl rfl (by kernel_rfl) (by kernel_rfl) (by kernel_rfl) (fun _ _ _ h => h) (Or.inl ⟨rfl, ?ha6⟩) hHeld ?ra6
    case ha6 => intro wq hSw; (try dsimp only at hSw); go_simp; all_goals (with_reducible rfl)
    try simp only [Act.put, List.setIfInBounds_toArray, List.set_cons_zero, List.set_cons_succ]
    refine wpAnyH_ready (rs := [9]) (by kernel_rfl) (by simp) ?_
    refine AllReadyH.cons rfl (fun K hK => ?_) AllReadyH.nil
    go_simp
    (go_at_call 85; refine (C2'.out _).mono ?_; rintro e x3 ⟨rfl, hq⟩; have hb0 := bel2 hb0 hq; clear hq)
    try (go_wp2_with fail)
    refine hK.out _ _ ?_ (fun hHeld => ?_)
    · exact KF.out _ hb0
    clear hK K
    try simp only [Act.put, List.setIfInBounds_toArray, List.set_cons_zero, List.set_cons_succ]
    refine TK.take_at 10 (some 15) (v := ?va10) rfl rfl (by kernel_rfl) (by kernel_rfl) (by kernel_rfl) (fun _ _ _ h => h) (Or.inl ⟨rfl, ?ha10⟩) hHeld ?ra10
    case ha10 => intro wq hSw; (try dsimp only at hSw); go_simp; all_goals (with_reducible rfl)
    try simp only [Act.put, List.setIfInBounds_toArray, List.set_cons_zero, List.set_cons_succ]
    refine wpAnyH_ready (rs := [14]) (by kernel_rfl) (by simp) ?_
    refine AllReadyH.cons rfl (fun K hK => ?_) AllReadyH.nil
    go_simp
    (go_at_call 84; refine (C3'.out _).mono ?_; rintro e x4 ⟨rfl, hq⟩; have hb0 := bel2 hb0 hq; clear hq)
    try (go_wp2_with fail)
    refine hK.out _ _ ?_ (fun hHeld => ?_)
    · exact KF.out _ hb0
    clear hK K
    try simp only [Act.put, List.setIfInBounds_toArray, List.set_cons_zero, List.set_cons_succ]
    refine TK.take_at 15 (some 20) (v := ?va15) rfl rfl (by kernel_rfl) (by kernel_rfl) (by kernel_rfl) (fun _ _ _ h => h) (Or.inl ⟨rfl, ?ha15⟩) hHeld ?ra15
    case ha15 => intro wq hSw; (try dsimp only at hSw); go_simp; all_goals (with_reducible rfl)
    try simp only [Act.put, List.setIfInBounds_toArray, List.set_cons_zero, List.set_cons_succ]
    refine TK.take_at 16 (some 3) (v := ?va16) rfl rfl (by kernel_rfl) (by kernel_rfl) (by kernel_rfl) (fun _ _ _ h => h) (Or.inl ⟨rfl, ?ha16⟩) hHeld ?ra16
    case ha16 => intro wq hSw; (try dsimp only at hSw); go_simp; all_goals (with_reducible rfl)
    try simp only [Act.put, List.setIfInBounds_toArray, List.set_cons_zero, List.set_cons_succ]
    refine wpAnyH_done (by kernel_rfl) ?_ _
    go_wp2_with fail
    go_meet
    case rel => exact ⟨by rw [HBT.out], hb0⟩
  case rest =>
    obtain ⟨rfl, hb⟩ := hcut
    have HB : Hid (Below W1.heap.size W1 wc) := hb
    have HK : Hid (W1.heap[w.heap.size]? = _) := k0
    clear hb k0 C0' C1' C2' C3' a1 a2 a3 a4 a5 s2 s3 HBT KF
    go_wp2_with fail
    go_loopw [3, 4] (fun t i y => ∃ k : Nat, k ≤ cs.length ∧ i = .int .i64 (k : Nat) ∧ t = .string (U k) ∧ Below W1.heap.size W1 y) (fun _ i _ => cs.length - (intOf i).toNat)
    case atStart => exact ⟨0, Nat.zero_le _, rfl, by rw [HU0.out], HB.out⟩
    case round =>
      clear HB HU0
      obtain ⟨k, hk, rfl, rfl, hb⟩ := hrel
      have hB := carry HK.out hb
      obtain ⟨q0, q1, q2, q3⟩ := blk4 hB
      by_cases hlt : k < cs.length
      · have hlt' : (k : Int) < (cs.length : Int) := by omega
        obtain ⟨b, off, rfl, hbb, hcc⟩ := hc (by omega)
        have hck := hcc k _ (iAt_get hlt)
        have hcw : wr.cell? ⟨b, off + k, none⟩ = some (.int .i64 (iAt cs k)) := ((bel2 B0.out hb).cell (p := ⟨b, off + k, none⟩) hbb).trans hck
        have CC := C4'.out k hlt
        have hz := HZ k hlt
        have HU1 : Hid (U (k + 1) = U k ++ numL (iAt cs k)) := HUP.out k
        have HB : Hid (Below W1.heap.size W1 wr) := hb
        clear hb hcc hck hB HZ hc
        generalize numL (iAt cs k) = pk at *
        go_wp2_with fail
        refine (CC _).mono ?_
        rintro e y ⟨rfl, hq⟩
        have HB2 : Hid (Below W1.heap.size W1 y) := bel2 HB.out hq
        clear hq CC
        go_wp2_with fail
        go_roundw
        case rel =>
          refine ⟨k + 1, hlt, ?_, ?_, HB2.out⟩
          · go_num
          · rw [HU1.out]
        case measure => simp [intOf]; omega
      · have hk2 : k = cs.length := by omega
        subst hk2
        have HB : Hid (Below w.heap.size w wr) := bel2 B0.out hb
        clear hb hB hc HZ
        go_wp2_with fail
        go_ret
        exact ⟨rfl, HB.out⟩
end Go.Proofs.YtkpjdmmgdmbmnaaDoor.A2
