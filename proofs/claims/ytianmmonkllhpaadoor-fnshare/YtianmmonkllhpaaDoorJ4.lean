/-
  Can shares be joined: in the specification.
-/
import Derived.Test.YtianmmonkllhpaaDoorJ1
import Derived.Test.YtianmmonkllhpaaDoorSI
import Derived.Test.YtianmmonkllhpaaDoorTK
import Derived.Deep.RegionHeld3
namespace Go.Proofs.YtianmmonkllhpaaDoor.J4
open Go.RowKit
open Go.Proofs.YtianmmonkllhpaaDoor.C0 Go.Proofs.YtianmmonkllhpaaDoor.HB Go.Proofs.YtianmmonkllhpaaDoor.SH
open Go.Proofs.YtianmmonkllhpaaDoor.SI (drewN_below)
open Go.Proofs.YtianmmonkllhpaaDoor.J1 (shareR yes2 no2)

def zero : Sh := (0, ⟨#[]⟩)
/-- The share at a place. -/
def at_ (l : List Sh) (k : Nat) : Sh := l.getD k zero
/-- Is the share at a place right, as long as the first one, of another place than those ahead? -/
def formOk (l : List Sh) (k : Nat) : Bool := shareR (at_ l k).1 (at_ l k).2 && (at_ l k).2.size == (at_ l 0).2.size
def newAt (l : List Sh) (k : Nat) : Nat → Bool
  | 0 => true
  | j + 1 => newAt l k j && !((at_ l j).1 == (at_ l k).1)
def okUp (l : List Sh) : Nat → Bool
  | 0 => true
  | k + 1 => okUp l k && (formOk l k && newAt l k k)
/-- Can they be joined? -/
def fineB (need : Int) (l : List Sh) : Bool := decide (1 ≤ need ∧ need ≤ 6) && (decide (need ≤ l.length) && okUp l l.length)
theorem newAt_no {l : List Sh} {k j : Nat} (h : (at_ l j).1 = (at_ l k).1) : ∀ m, j < m → newAt l k m = false
  | 0, hm => by omega
  | m + 1, hm => by
    unfold newAt
    by_cases e : j = m
    · subst e; simp [h]
    · rw [newAt_no h m (by omega)]; rfl
theorem okUp_no {l : List Sh} {k : Nat} (h : formOk l k = false ∨ newAt l k k = false) : ∀ m, k < m → okUp l m = false
  | 0, hm => by omega
  | m + 1, hm => by
    unfold okUp
    by_cases e : k = m
    · subst e; rcases h with h | h <;> simp [h]
    · rw [okUp_no h m (by omega)]; rfl
theorem at_get {l : List Sh} {k : Nat} (h : k < l.length) : l[k]? = some (at_ l k) := by unfold at_; simp [h]

set_option maxRecDepth 100000 in
set_option maxHeartbeats 3200000 in
theorem fine_spec (need : Int) (v : Value) (l : List Sh) (w : World) (hv : Shares w v l) (hz : ∀ s ∈ l, s.2.size ≤ maxLen) :
    Calls Tryd.prog 44 #[.int .i64 need, v] w fun e w' => e = .returned (.bool (fineB need l)) ∧ Below w.heap.size w w' := by
  obtain ⟨a, cap, rfl, hl, hc⟩ := hv
  unfold maxLen at hl
  by_cases hn : 1 ≤ need ∧ need ≤ 6
  · by_cases hln : need ≤ l.length
    · have HR : Hid (fineB need l = okUp l l.length) := by
        unfold Hid fineB; rw [yes2 hn, decide_eq_true hln]; rfl
      have hlt0 : decide ((l.length : Int) < need) = false := decide_eq_false (by omega)
      rw [HR.out]
      go_enter Tryd.func44, Tryd.ntmps44
      go_wp2_with fail
      refine (G0.is_spec need 1 6 _).mono ?_
      rintro e w1 ⟨rfl, rfl⟩
      rw [yes2 hn]
      go_wp2_with fail
      go_loopw [5] (fun i x => ∃ k : Nat, k ≤ l.length ∧ i = .int .i64 (k : Nat) ∧ okUp l k = true ∧ Below w.heap.size w x) (fun i _ => l.length - (intOf i).toNat)
      case atStart => exact ⟨0, Nat.zero_le _, rfl, rfl, Below.refl _ _⟩
      case round =>
        obtain ⟨k, hk, rfl, hok, hbel⟩ := hrel
        by_cases hlt : k < l.length
        · have hlt' : (k : Int) < (l.length : Int) := by omega
          have h0lt : 0 < l.length := by omega
          obtain ⟨b, off, rfl, hb, hcc⟩ := hc (by omega)
          have hg0 := at_get (l := l) (k := 0) (by omega)
          have hgk := at_get hlt
          have hs0 := hz _ (List.mem_of_getElem? hg0)
          have hsk := hz _ (List.mem_of_getElem? hgk)
          have hc0 := hcc 0 _ hg0
          have hck := hcc k _ hgk
          have KF : Hid (∀ y, Below w.heap.size w y → y.cell? ⟨b, off + k * 2, none⟩ = some (.int .i64 (at_ l k).1) ∧ y.cell? ⟨b, off + k * 2 + 1, none⟩ = some (.string (at_ l k).2) ∧ y.cell? ⟨b, off + 1, none⟩ = some (.string (at_ l 0).2)) := fun y hy =>
            ⟨(hy.cell (p := ⟨b, off + k * 2, none⟩) hb).trans hck.1, (hy.cell (p := ⟨b, off + k * 2 + 1, none⟩) hb).trans hck.2, (hy.cell (p := ⟨b, off + 1, none⟩) hb).trans (by simpa using hc0.2)⟩
          have HB : Hid (Below w.heap.size w wr) := hbel
          have KW := KF.out _ HB.out
          clear hbel hc0 hck
          have CS : Hid (∀ W, Calls Tryd.prog 20 #[.agg #[.int .i64 (at_ l k).1, .string (at_ l k).2]] W fun e w' => e = .returned (.bool (shareR (at_ l k).1 (at_ l k).2)) ∧ Below W.heap.size W w') := fun W => J1.right_spec _ _ W hsk
          have hSZ : Hid (formOk l k = (shareR (at_ l k).1 (at_ l k).2 && (at_ l k).2.size == (at_ l 0).2.size)) := rfl
          unfold maxLen at hs0 hsk
          cases h1 : shareR (at_ l k).1 (at_ l k).2 with
          | true =>
            rw [h1] at CS hSZ
            by_cases hq : (at_ l k).2.size = (at_ l 0).2.size
            · have hF : Hid (formOk l k = true) := by unfold Hid; rw [hSZ.out, hq]; simp
              have hqb : (((at_ l k).2.size : Int) != ((at_ l 0).2.size : Int)) = false := by rw [hq]; simp
              go_wp2_with fail
              refine wp_region_held_drew (S := (fun y => y.cell? ⟨b, off + k * 2, none⟩ = some (.int .i64 (at_ l k).1) ∧ y.cell? ⟨b, off + k * 2 + 1, none⟩ = some (.string (at_ l k).2) ∧ y.cell? ⟨b, off + 1, none⟩ = some (.string (at_ l 0).2))) (by kernel_rfl) (KF.out _ HB.out.drew) (fun hHeld => ?_)
              refine TK.take_at 0 (some 22) (v := ?vc0) rfl rfl (by kernel_rfl) (by kernel_rfl) (by kernel_rfl) (fun _ _ _ h => h) (Or.inl ⟨rfl, ?hc0⟩) hHeld ?rc0
              case hc0 => intro wq hSw; (try dsimp only at hSw); go_simp; all_goals (with_reducible rfl)
              try simp only [Act.put, List.setIfInBounds_toArray, List.set_cons_zero, List.set_cons_succ]
              refine TK.take_at 1 (some 23) (v := ?vc1) rfl rfl (by kernel_rfl) (by kernel_rfl) (by kernel_rfl) (fun _ _ _ h => h) (Or.inl ⟨rfl, ?hc1⟩) hHeld ?rc1
              case hc1 => intro wq hSw; (try dsimp only at hSw); go_simp; all_goals (with_reducible rfl)
              try simp only [Act.put, List.setIfInBounds_toArray, List.set_cons_zero, List.set_cons_succ]
              refine TK.take_at 2 (some 24) (v := ?vc2) rfl rfl (by kernel_rfl) (by kernel_rfl) (by kernel_rfl) (fun _ _ _ h => h) (Or.inl ⟨rfl, ?hc2⟩) hHeld ?rc2
              case hc2 => intro wq hSw; (try dsimp only at hSw); go_simp; all_goals (with_reducible rfl)
              try simp only [Act.put, List.setIfInBounds_toArray, List.set_cons_zero, List.set_cons_succ]
              refine TK.take_at 3 (some 25) (v := ?vc3) rfl rfl (by kernel_rfl) (by kernel_rfl) (by kernel_rfl) (fun _ _ _ h => h) (Or.inl ⟨rfl, ?hc3⟩) hHeld ?rc3
              case hc3 => intro wq hSw; (try dsimp only at hSw); go_simp; all_goals (with_reducible rfl)
              try simp only [Act.put, List.setIfInBounds_toArray, List.set_cons_zero, List.set_cons_succ]
              refine wpAnyH_ready (rs := [4]) (by kernel_rfl) (by simp) ?_
              refine AllReadyH.cons rfl (fun K hK => ?_) AllReadyH.nil
              go_simp
              (go_at_call 20; refine (CS.out _).mono ?_; rintro e xn ⟨rfl, bn⟩; have BN : Below w.heap.size w xn := bel2 HB.out.drew bn)
              try (go_wp2_with fail)
              refine hK.out _ _ ?_ (fun hHeld => ?_)
              · exact KF.out _ BN
              clear hK K
              try simp only [Act.put, List.setIfInBounds_toArray, List.set_cons_zero, List.set_cons_succ]
              refine TK.take_at 5 (some 27) (v := ?vc5) rfl rfl (by kernel_rfl) (by kernel_rfl) (by kernel_rfl) (fun _ _ _ h => h) (Or.inl ⟨rfl, ?hc5⟩) hHeld ?rc5
              case hc5 => intro wq hSw; (try dsimp only at hSw); go_simp; all_goals (with_reducible rfl)
              try simp only [Act.put, List.setIfInBounds_toArray, List.set_cons_zero, List.set_cons_succ]
              refine TK.take_at 6 (some 28) (v := ?vc6) rfl rfl (by kernel_rfl) (by kernel_rfl) (by kernel_rfl) (fun _ _ _ h => h) (Or.inl ⟨rfl, ?hc6⟩) hHeld ?rc6
              case hc6 => intro wq hSw; (try dsimp only at hSw); go_simp; all_goals (with_reducible rfl)
              try simp only [Act.put, List.setIfInBounds_toArray, List.set_cons_zero, List.set_cons_succ]
              refine TK.take_at 7 (some 29) (v := ?vc7) rfl rfl (by kernel_rfl) (by kernel_rfl) (by kernel_rfl) (fun _ _ _ h => h) (Or.inl ⟨rfl, ?hc7⟩) hHeld ?rc7
              case hc7 => intro wq hSw; (try dsimp only at hSw); go_simp; all_goals (with_reducible rfl)
              try simp only [Act.put, List.setIfInBounds_toArray, List.set_cons_zero, List.set_cons_succ]
              refine TK.take_at 8 (some 30) (v := ?vc8) rfl rfl (by kernel_rfl) (by kernel_rfl) (by kernel_rfl) (fun _ _ _ h => h) (Or.inl ⟨rfl, ?hc8⟩) hHeld ?rc8
              case hc8 => intro wq hSw; (try dsimp only at hSw); go_simp; all_goals (with_reducible rfl)
              try simp only [Act.put, List.setIfInBounds_toArray, List.set_cons_zero, List.set_cons_succ]
              refine TK.take_at 9 (some 31) (v := ?vc9) rfl rfl (by kernel_rfl) (by kernel_rfl) (by kernel_rfl) (fun _ _ _ h => h) (Or.inl ⟨rfl, ?hc9⟩) hHeld ?rc9
              case hc9 => intro wq hSw; (try dsimp only at hSw); go_simp; all_goals (with_reducible rfl)
              try simp only [Act.put, List.setIfInBounds_toArray, List.set_cons_zero, List.set_cons_succ]
              refine TK.take_at 10 (some 32) (v := ?vc10) rfl rfl (by kernel_rfl) (by kernel_rfl) (by kernel_rfl) (fun _ _ _ h => h) (Or.inl ⟨rfl, ?hc10⟩) hHeld ?rc10
              case hc10 => intro wq hSw; (try dsimp only at hSw); go_simp; all_goals (with_reducible rfl)
              try simp only [Act.put, List.setIfInBounds_toArray, List.set_cons_zero, List.set_cons_succ]
              refine TK.take_at 11 (some 33) (v := ?vc11) rfl rfl (by kernel_rfl) (by kernel_rfl) (by kernel_rfl) (fun _ _ _ h => h) (Or.inl ⟨rfl, ?hc11⟩) hHeld ?rc11
              case hc11 => intro wq hSw; (try dsimp only at hSw); go_simp; all_goals (with_reducible rfl)
              try simp only [Act.put, List.setIfInBounds_toArray, List.set_cons_zero, List.set_cons_succ]
              refine TK.take_at 12 (some 34) (v := ?vc12) rfl rfl (by kernel_rfl) (by kernel_rfl) (by kernel_rfl) (fun _ _ _ h => h) (Or.inl ⟨rfl, ?hc12⟩) hHeld ?rc12
              case hc12 => intro wq hSw; (try dsimp only at hSw); go_simp; all_goals (with_reducible rfl)
              try simp only [Act.put, List.setIfInBounds_toArray, List.set_cons_zero, List.set_cons_succ]
              refine TK.take_at 13 (some 35) (v := ?vc13) rfl rfl (by kernel_rfl) (by kernel_rfl) (by kernel_rfl) (fun _ _ _ h => h) (Or.inl ⟨rfl, ?hc13⟩) hHeld ?rc13
              case hc13 => intro wq hSw; (try dsimp only at hSw); go_simp; all_goals (with_reducible rfl)
              try simp only [Act.put, List.setIfInBounds_toArray, List.set_cons_zero, List.set_cons_succ]
              refine TK.take_at 14 (some 36) (v := ?vc14) rfl rfl (by kernel_rfl) (by kernel_rfl) (by kernel_rfl) (fun _ _ _ h => h) (Or.inl ⟨rfl, ?hc14⟩) hHeld ?rc14
              case hc14 => intro wq hSw; (try dsimp only at hSw); go_simp; all_goals (with_reducible rfl)
              try simp only [Act.put, List.setIfInBounds_toArray, List.set_cons_zero, List.set_cons_succ]
              refine TK.take_at 15 (some 37) (v := ?vc15) rfl rfl (by kernel_rfl) (by kernel_rfl) (by kernel_rfl) (fun _ _ _ h => h) (Or.inl ⟨rfl, ?hc15⟩) hHeld ?rc15
              case hc15 => intro wq hSw; (try dsimp only at hSw); go_simp; all_goals (with_reducible rfl)
              try simp only [Act.put, List.setIfInBounds_toArray, List.set_cons_zero, List.set_cons_succ]
              refine TK.take_at 16 (some 38) (v := ?vc16) rfl rfl (by kernel_rfl) (by kernel_rfl) (by kernel_rfl) (fun _ _ _ h => h) (Or.inl ⟨rfl, ?hc16⟩) hHeld ?rc16
              case hc16 => intro wq hSw; (try dsimp only at hSw); go_simp; all_goals (with_reducible rfl)
              try simp only [Act.put, List.setIfInBounds_toArray, List.set_cons_zero, List.set_cons_succ]
              refine TK.take_at 17 (some 39) (v := ?vc17) rfl rfl (by kernel_rfl) (by kernel_rfl) (by kernel_rfl) (fun _ _ _ h => h) (Or.inl ⟨rfl, ?hc17⟩) hHeld ?rc17
              case hc17 => intro wq hSw; (try dsimp only at hSw); go_simp; all_goals (with_reducible rfl)
              try simp only [Act.put, List.setIfInBounds_toArray, List.set_cons_zero, List.set_cons_succ]
              refine TK.take_at 18 (some 40) (v := ?vc18) rfl rfl (by kernel_rfl) (by kernel_rfl) (by kernel_rfl) (fun _ _ _ h => h) (Or.inl ⟨rfl, ?hc18⟩) hHeld ?rc18
              case hc18 => intro wq hSw; (try dsimp only at hSw); go_simp; all_goals (with_reducible rfl)
              try simp only [Act.put, List.setIfInBounds_toArray, List.set_cons_zero, List.set_cons_succ]
              refine TK.take_at 19 (some 41) (v := ?vc19) rfl rfl (by kernel_rfl) (by kernel_rfl) (by kernel_rfl) (fun _ _ _ h => h) (Or.inl ⟨rfl, ?hc19⟩) hHeld ?rc19
              case hc19 => intro wq hSw; (try dsimp only at hSw); go_simp; all_goals (with_reducible rfl)
              try simp only [Act.put, List.setIfInBounds_toArray, List.set_cons_zero, List.set_cons_succ]
              refine wpAnyH_done (by kernel_rfl) ?_ _
              clear hHeld hqb
              go_wp2_with fail
              go_loopw [6] (fun i x => ∃ j : Nat, j ≤ k ∧ i = .int .i64 (j : Nat) ∧ newAt l k j = true ∧ Below w.heap.size w x) (fun i _ => k - (intOf i).toNat)
              case atStart => exact ⟨0, Nat.zero_le _, rfl, rfl, BN⟩
              case round =>
                clear KW BN
                obtain ⟨j, hj, rfl, hnew, hbel⟩ := hrel
                by_cases hjk : j < k
                · have hjk' : (j : Int) < (k : Int) := by omega
                  have hjl : (j : Int) < (l.length : Int) := by omega
                  have hcj := hcc j _ (at_get (l := l) (k := j) (by omega))
                  have c0 := (hbel.cell (p := ⟨b, off + j * 2, none⟩) hb).trans hcj.1
                  have c1 := (KF.out _ hbel).1
                  have HB2 : Hid (Below w.heap.size w wr) := hbel
                  clear hcj hbel
                  have HNW : Hid (newAt l k (j + 1) = (newAt l k j && !((at_ l j).1 == (at_ l k).1))) := rfl
                  have HNN : Hid ((at_ l j).1 = (at_ l k).1 → newAt l k k = false) := fun h => newAt_no h k hjk
                  rw [hnew] at HNW
                  by_cases hsame : (at_ l j).1 = (at_ l k).1
                  · have hO : Hid (okUp l l.length = false) := okUp_no (.inr (HNN.out hsame)) _ hlt
                    have hb1 : ((at_ l j).1 == (at_ l k).1) = true := by simp [hsame]
                    clear hcc hc
                    go_wp2
                    go_quiet (fail)
                    go_wp2
                    go_ret
                    rw [hO.out]
                    exact ⟨rfl, drewN_below HB2.out _⟩
                  · have hb1 : ((at_ l j).1 == (at_ l k).1) = false := by simp [hsame]
                    have HN2 : Hid (newAt l k (j + 1) = true) := by unfold Hid; rw [HNW.out, hb1]; rfl
                    clear hcc hc HNW
                    go_wp2
                    go_quiet (fail)
                    go_wp2
                    go_roundw
                    case rel => exact ⟨j + 1, by omega, by go_num, HN2.out, drewN_below HB2.out _⟩
                    case measure => simp [intOf]; omega
                · obtain rfl : j = k := by omega
                  have HN2 : Hid (okUp l (j + 1) = true) := by
                    show (okUp l j && (formOk l j && newAt l j j)) = true
                    rw [hok, hF.out, hnew]; rfl
                  have HB2 : Hid (Below w.heap.size w wr) := hbel
                  clear hcc hc hbel hnew hok
                  go_wp2
                  go_roundw
                  case rel => exact ⟨j + 1, by omega, by go_num, HN2.out, HB2.out⟩
                  case measure => simp [intOf]; omega
            · have hF : Hid (formOk l k = false) := by unfold Hid; rw [hSZ.out]; simp [hq]
              have hqb : (((at_ l k).2.size : Int) != ((at_ l 0).2.size : Int)) = true := by simp; omega
              have hO : Hid (okUp l l.length = false) := okUp_no (.inl hF.out) _ hlt
              go_wp2_with fail
              refine wp_region_held_drew (S := (fun y => y.cell? ⟨b, off + k * 2, none⟩ = some (.int .i64 (at_ l k).1) ∧ y.cell? ⟨b, off + k * 2 + 1, none⟩ = some (.string (at_ l k).2) ∧ y.cell? ⟨b, off + 1, none⟩ = some (.string (at_ l 0).2))) (by kernel_rfl) (KF.out _ HB.out.drew) (fun hHeld => ?_)
              refine TK.take_at 0 (some 22) (v := ?vb0) rfl rfl (by kernel_rfl) (by kernel_rfl) (by kernel_rfl) (fun _ _ _ h => h) (Or.inl ⟨rfl, ?hb0⟩) hHeld ?rb0
              case hb0 => intro wq hSw; (try dsimp only at hSw); go_simp; all_goals (with_reducible rfl)
              try simp only [Act.put, List.setIfInBounds_toArray, List.set_cons_zero, List.set_cons_succ]
              refine TK.take_at 1 (some 23) (v := ?vb1) rfl rfl (by kernel_rfl) (by kernel_rfl) (by kernel_rfl) (fun _ _ _ h => h) (Or.inl ⟨rfl, ?hb1⟩) hHeld ?rb1
              case hb1 => intro wq hSw; (try dsimp only at hSw); go_simp; all_goals (with_reducible rfl)
              try simp only [Act.put, List.setIfInBounds_toArray, List.set_cons_zero, List.set_cons_succ]
              refine TK.take_at 2 (some 24) (v := ?vb2) rfl rfl (by kernel_rfl) (by kernel_rfl) (by kernel_rfl) (fun _ _ _ h => h) (Or.inl ⟨rfl, ?hb2⟩) hHeld ?rb2
              case hb2 => intro wq hSw; (try dsimp only at hSw); go_simp; all_goals (with_reducible rfl)
              try simp only [Act.put, List.setIfInBounds_toArray, List.set_cons_zero, List.set_cons_succ]
              refine TK.take_at 3 (some 25) (v := ?vb3) rfl rfl (by kernel_rfl) (by kernel_rfl) (by kernel_rfl) (fun _ _ _ h => h) (Or.inl ⟨rfl, ?hb3⟩) hHeld ?rb3
              case hb3 => intro wq hSw; (try dsimp only at hSw); go_simp; all_goals (with_reducible rfl)
              try simp only [Act.put, List.setIfInBounds_toArray, List.set_cons_zero, List.set_cons_succ]
              refine wpAnyH_ready (rs := [4]) (by kernel_rfl) (by simp) ?_
              refine AllReadyH.cons rfl (fun K hK => ?_) AllReadyH.nil
              go_simp
              (go_at_call 20; refine (CS.out _).mono ?_; rintro e xn ⟨rfl, bn⟩; have BN : Below w.heap.size w xn := bel2 HB.out.drew bn)
              try (go_wp2_with fail)
              refine hK.out _ _ ?_ (fun hHeld => ?_)
              · exact KF.out _ BN
              clear hK K
              try simp only [Act.put, List.setIfInBounds_toArray, List.set_cons_zero, List.set_cons_succ]
              refine TK.take_at 5 (some 27) (v := ?vb5) rfl rfl (by kernel_rfl) (by kernel_rfl) (by kernel_rfl) (fun _ _ _ h => h) (Or.inl ⟨rfl, ?hb5⟩) hHeld ?rb5
              case hb5 => intro wq hSw; (try dsimp only at hSw); go_simp; all_goals (with_reducible rfl)
              try simp only [Act.put, List.setIfInBounds_toArray, List.set_cons_zero, List.set_cons_succ]
              refine TK.take_at 6 (some 28) (v := ?vb6) rfl rfl (by kernel_rfl) (by kernel_rfl) (by kernel_rfl) (fun _ _ _ h => h) (Or.inl ⟨rfl, ?hb6⟩) hHeld ?rb6
              case hb6 => intro wq hSw; (try dsimp only at hSw); go_simp; all_goals (with_reducible rfl)
              try simp only [Act.put, List.setIfInBounds_toArray, List.set_cons_zero, List.set_cons_succ]
              refine TK.take_at 7 (some 29) (v := ?vb7) rfl rfl (by kernel_rfl) (by kernel_rfl) (by kernel_rfl) (fun _ _ _ h => h) (Or.inl ⟨rfl, ?hb7⟩) hHeld ?rb7
              case hb7 => intro wq hSw; (try dsimp only at hSw); go_simp; all_goals (with_reducible rfl)
              try simp only [Act.put, List.setIfInBounds_toArray, List.set_cons_zero, List.set_cons_succ]
              refine TK.take_at 8 (some 30) (v := ?vb8) rfl rfl (by kernel_rfl) (by kernel_rfl) (by kernel_rfl) (fun _ _ _ h => h) (Or.inl ⟨rfl, ?hb8⟩) hHeld ?rb8
              case hb8 => intro wq hSw; (try dsimp only at hSw); go_simp; all_goals (with_reducible rfl)
              try simp only [Act.put, List.setIfInBounds_toArray, List.set_cons_zero, List.set_cons_succ]
              refine TK.take_at 9 (some 31) (v := ?vb9) rfl rfl (by kernel_rfl) (by kernel_rfl) (by kernel_rfl) (fun _ _ _ h => h) (Or.inl ⟨rfl, ?hb9⟩) hHeld ?rb9
              case hb9 => intro wq hSw; (try dsimp only at hSw); go_simp; all_goals (with_reducible rfl)
              try simp only [Act.put, List.setIfInBounds_toArray, List.set_cons_zero, List.set_cons_succ]
              refine TK.take_at 10 (some 32) (v := ?vb10) rfl rfl (by kernel_rfl) (by kernel_rfl) (by kernel_rfl) (fun _ _ _ h => h) (Or.inl ⟨rfl, ?hb10⟩) hHeld ?rb10
              case hb10 => intro wq hSw; (try dsimp only at hSw); go_simp; all_goals (with_reducible rfl)
              try simp only [Act.put, List.setIfInBounds_toArray, List.set_cons_zero, List.set_cons_succ]
              refine TK.take_at 11 (some 33) (v := ?vb11) rfl rfl (by kernel_rfl) (by kernel_rfl) (by kernel_rfl) (fun _ _ _ h => h) (Or.inl ⟨rfl, ?hb11⟩) hHeld ?rb11
              case hb11 => intro wq hSw; (try dsimp only at hSw); go_simp; all_goals (with_reducible rfl)
              try simp only [Act.put, List.setIfInBounds_toArray, List.set_cons_zero, List.set_cons_succ]
              refine TK.take_at 12 (some 34) (v := ?vb12) rfl rfl (by kernel_rfl) (by kernel_rfl) (by kernel_rfl) (fun _ _ _ h => h) (Or.inl ⟨rfl, ?hb12⟩) hHeld ?rb12
              case hb12 => intro wq hSw; (try dsimp only at hSw); go_simp; all_goals (with_reducible rfl)
              try simp only [Act.put, List.setIfInBounds_toArray, List.set_cons_zero, List.set_cons_succ]
              refine TK.take_at 13 (some 35) (v := ?vb13) rfl rfl (by kernel_rfl) (by kernel_rfl) (by kernel_rfl) (fun _ _ _ h => h) (Or.inl ⟨rfl, ?hb13⟩) hHeld ?rb13
              case hb13 => intro wq hSw; (try dsimp only at hSw); go_simp; all_goals (with_reducible rfl)
              try simp only [Act.put, List.setIfInBounds_toArray, List.set_cons_zero, List.set_cons_succ]
              refine TK.take_at 14 (some 36) (v := ?vb14) rfl rfl (by kernel_rfl) (by kernel_rfl) (by kernel_rfl) (fun _ _ _ h => h) (Or.inl ⟨rfl, ?hb14⟩) hHeld ?rb14
              case hb14 => intro wq hSw; (try dsimp only at hSw); go_simp; all_goals (with_reducible rfl)
              try simp only [Act.put, List.setIfInBounds_toArray, List.set_cons_zero, List.set_cons_succ]
              refine TK.take_at 15 (some 37) (v := ?vb15) rfl rfl (by kernel_rfl) (by kernel_rfl) (by kernel_rfl) (fun _ _ _ h => h) (Or.inl ⟨rfl, ?hb15⟩) hHeld ?rb15
              case hb15 => intro wq hSw; (try dsimp only at hSw); go_simp; all_goals (with_reducible rfl)
              try simp only [Act.put, List.setIfInBounds_toArray, List.set_cons_zero, List.set_cons_succ]
              refine TK.take_at 16 (some 38) (v := ?vb16) rfl rfl (by kernel_rfl) (by kernel_rfl) (by kernel_rfl) (fun _ _ _ h => h) (Or.inl ⟨rfl, ?hb16⟩) hHeld ?rb16
              case hb16 => intro wq hSw; (try dsimp only at hSw); go_simp; all_goals (with_reducible rfl)
              try simp only [Act.put, List.setIfInBounds_toArray, List.set_cons_zero, List.set_cons_succ]
              refine TK.take_at 17 (some 39) (v := ?vb17) rfl rfl (by kernel_rfl) (by kernel_rfl) (by kernel_rfl) (fun _ _ _ h => h) (Or.inl ⟨rfl, ?hb17⟩) hHeld ?rb17
              case hb17 => intro wq hSw; (try dsimp only at hSw); go_simp; all_goals (with_reducible rfl)
              try simp only [Act.put, List.setIfInBounds_toArray, List.set_cons_zero, List.set_cons_succ]
              refine TK.take_at 18 (some 40) (v := ?vb18) rfl rfl (by kernel_rfl) (by kernel_rfl) (by kernel_rfl) (fun _ _ _ h => h) (Or.inl ⟨rfl, ?hb18⟩) hHeld ?rb18
              case hb18 => intro wq hSw; (try dsimp only at hSw); go_simp; all_goals (with_reducible rfl)
              try simp only [Act.put, List.setIfInBounds_toArray, List.set_cons_zero, List.set_cons_succ]
              refine TK.take_at 19 (some 41) (v := ?vb19) rfl rfl (by kernel_rfl) (by kernel_rfl) (by kernel_rfl) (fun _ _ _ h => h) (Or.inl ⟨rfl, ?hb19⟩) hHeld ?rb19
              case hb19 => intro wq hSw; (try dsimp only at hSw); go_simp; all_goals (with_reducible rfl)
              try simp only [Act.put, List.setIfInBounds_toArray, List.set_cons_zero, List.set_cons_succ]
              refine wpAnyH_done (by kernel_rfl) ?_ _
              go_wp2
              go_ret
              rw [hO.out]
              exact ⟨rfl, BN⟩
          | false =>
            rw [h1] at CS hSZ
            have hF : Hid (formOk l k = false) := hSZ.out
            have hO : Hid (okUp l l.length = false) := okUp_no (.inl hF.out) _ hlt
            go_wp2_with fail
            refine wp_region_held_drew (S := (fun y => y.cell? ⟨b, off + k * 2, none⟩ = some (.int .i64 (at_ l k).1) ∧ y.cell? ⟨b, off + k * 2 + 1, none⟩ = some (.string (at_ l k).2) ∧ y.cell? ⟨b, off + 1, none⟩ = some (.string (at_ l 0).2))) (by kernel_rfl) (KF.out _ HB.out.drew) (fun hHeld => ?_)
            refine TK.take_at 0 (some 22) (v := ?va0) rfl rfl (by kernel_rfl) (by kernel_rfl) (by kernel_rfl) (fun _ _ _ h => h) (Or.inl ⟨rfl, ?ha0⟩) hHeld ?ra0
            case ha0 => intro wq hSw; (try dsimp only at hSw); go_simp; all_goals (with_reducible rfl)
            try simp only [Act.put, List.setIfInBounds_toArray, List.set_cons_zero, List.set_cons_succ]
            refine TK.take_at 1 (some 23) (v := ?va1) rfl rfl (by kernel_rfl) (by kernel_rfl) (by kernel_rfl) (fun _ _ _ h => h) (Or.inl ⟨rfl, ?ha1⟩) hHeld ?ra1
            case ha1 => intro wq hSw; (try dsimp only at hSw); go_simp; all_goals (with_reducible rfl)
            try simp only [Act.put, List.setIfInBounds_toArray, List.set_cons_zero, List.set_cons_succ]
            refine TK.take_at 2 (some 24) (v := ?va2) rfl rfl (by kernel_rfl) (by kernel_rfl) (by kernel_rfl) (fun _ _ _ h => h) (Or.inl ⟨rfl, ?ha2⟩) hHeld ?ra2
            case ha2 => intro wq hSw; (try dsimp only at hSw); go_simp; all_goals (with_reducible rfl)
            try simp only [Act.put, List.setIfInBounds_toArray, List.set_cons_zero, List.set_cons_succ]
            refine TK.take_at 3 (some 25) (v := ?va3) rfl rfl (by kernel_rfl) (by kernel_rfl) (by kernel_rfl) (fun _ _ _ h => h) (Or.inl ⟨rfl, ?ha3⟩) hHeld ?ra3
            case ha3 => intro wq hSw; (try dsimp only at hSw); go_simp; all_goals (with_reducible rfl)
            try simp only [Act.put, List.setIfInBounds_toArray, List.set_cons_zero, List.set_cons_succ]
            refine wpAnyH_ready (rs := [4]) (by kernel_rfl) (by simp) ?_
            refine AllReadyH.cons rfl (fun K hK => ?_) AllReadyH.nil
            go_simp
            (go_at_call 20; refine (CS.out _).mono ?_; rintro e xn ⟨rfl, bn⟩; have BN : Below w.heap.size w xn := bel2 HB.out.drew bn)
            try (go_wp2_with fail)
            refine hK.out _ _ ?_ (fun hHeld => ?_)
            · exact KF.out _ BN
            clear hK K
            try simp only [Act.put, List.setIfInBounds_toArray, List.set_cons_zero, List.set_cons_succ]
            refine TK.take_at 5 (some 27) (v := ?va5) rfl rfl (by kernel_rfl) (by kernel_rfl) (by kernel_rfl) (fun _ _ _ h => h) (Or.inl ⟨rfl, ?ha5⟩) hHeld ?ra5
            case ha5 => intro wq hSw; (try dsimp only at hSw); go_simp; all_goals (with_reducible rfl)
            try simp only [Act.put, List.setIfInBounds_toArray, List.set_cons_zero, List.set_cons_succ]
            refine TK.take_at 6 (some 28) (v := ?va6) rfl rfl (by kernel_rfl) (by kernel_rfl) (by kernel_rfl) (fun _ _ _ h => h) (Or.inl ⟨rfl, ?ha6⟩) hHeld ?ra6
            case ha6 => intro wq hSw; (try dsimp only at hSw); go_simp; all_goals (with_reducible rfl)
            try simp only [Act.put, List.setIfInBounds_toArray, List.set_cons_zero, List.set_cons_succ]
            refine TK.take_at 7 (some 29) (v := undef) rfl rfl (by kernel_rfl) (by kernel_rfl) (by kernel_rfl) (fun _ _ _ h => h) (Or.inr ⟨rfl, rfl⟩) hHeld ?_
            try simp only [Act.put, List.setIfInBounds_toArray, List.set_cons_zero, List.set_cons_succ]
            refine TK.take_at 8 (some 30) (v := undef) rfl rfl (by kernel_rfl) (by kernel_rfl) (by kernel_rfl) (fun _ _ _ h => h) (Or.inr ⟨rfl, rfl⟩) hHeld ?_
            try simp only [Act.put, List.setIfInBounds_toArray, List.set_cons_zero, List.set_cons_succ]
            refine TK.take_at 9 (some 31) (v := undef) rfl rfl (by kernel_rfl) (by kernel_rfl) (by kernel_rfl) (fun _ _ _ h => h) (Or.inr ⟨rfl, rfl⟩) hHeld ?_
            try simp only [Act.put, List.setIfInBounds_toArray, List.set_cons_zero, List.set_cons_succ]
            refine TK.take_at 10 (some 32) (v := undef) rfl rfl (by kernel_rfl) (by kernel_rfl) (by kernel_rfl) (fun _ _ _ h => h) (Or.inr ⟨rfl, rfl⟩) hHeld ?_
            try simp only [Act.put, List.setIfInBounds_toArray, List.set_cons_zero, List.set_cons_succ]
            refine TK.take_at 11 (some 33) (v := undef) rfl rfl (by kernel_rfl) (by kernel_rfl) (by kernel_rfl) (fun _ _ _ h => h) (Or.inr ⟨rfl, rfl⟩) hHeld ?_
            try simp only [Act.put, List.setIfInBounds_toArray, List.set_cons_zero, List.set_cons_succ]
            refine TK.take_at 12 (some 34) (v := undef) rfl rfl (by kernel_rfl) (by kernel_rfl) (by kernel_rfl) (fun _ _ _ h => h) (Or.inr ⟨rfl, rfl⟩) hHeld ?_
            try simp only [Act.put, List.setIfInBounds_toArray, List.set_cons_zero, List.set_cons_succ]
            refine TK.take_at 13 (some 35) (v := undef) rfl rfl (by kernel_rfl) (by kernel_rfl) (by kernel_rfl) (fun _ _ _ h => h) (Or.inr ⟨rfl, rfl⟩) hHeld ?_
            try simp only [Act.put, List.setIfInBounds_toArray, List.set_cons_zero, List.set_cons_succ]
            refine TK.take_at 14 (some 36) (v := undef) rfl rfl (by kernel_rfl) (by kernel_rfl) (by kernel_rfl) (fun _ _ _ h => h) (Or.inr ⟨rfl, rfl⟩) hHeld ?_
            try simp only [Act.put, List.setIfInBounds_toArray, List.set_cons_zero, List.set_cons_succ]
            refine TK.take_at 15 (some 37) (v := undef) rfl rfl (by kernel_rfl) (by kernel_rfl) (by kernel_rfl) (fun _ _ _ h => h) (Or.inr ⟨rfl, rfl⟩) hHeld ?_
            try simp only [Act.put, List.setIfInBounds_toArray, List.set_cons_zero, List.set_cons_succ]
            refine TK.take_at 16 (some 38) (v := undef) rfl rfl (by kernel_rfl) (by kernel_rfl) (by kernel_rfl) (fun _ _ _ h => h) (Or.inr ⟨rfl, rfl⟩) hHeld ?_
            try simp only [Act.put, List.setIfInBounds_toArray, List.set_cons_zero, List.set_cons_succ]
            refine TK.take_at 17 (some 39) (v := undef) rfl rfl (by kernel_rfl) (by kernel_rfl) (by kernel_rfl) (fun _ _ _ h => h) (Or.inr ⟨rfl, rfl⟩) hHeld ?_
            try simp only [Act.put, List.setIfInBounds_toArray, List.set_cons_zero, List.set_cons_succ]
            refine TK.take_at 18 (some 40) (v := undef) rfl rfl (by kernel_rfl) (by kernel_rfl) (by kernel_rfl) (fun _ _ _ h => h) (Or.inr ⟨rfl, rfl⟩) hHeld ?_
            try simp only [Act.put, List.setIfInBounds_toArray, List.set_cons_zero, List.set_cons_succ]
            refine TK.take_at 19 (some 41) (v := ?va19) rfl rfl (by kernel_rfl) (by kernel_rfl) (by kernel_rfl) (fun _ _ _ h => h) (Or.inl ⟨rfl, ?ha19⟩) hHeld ?ra19
            case ha19 => intro wq hSw; (try dsimp only at hSw); go_simp; all_goals (with_reducible rfl)
            try simp only [Act.put, List.setIfInBounds_toArray, List.set_cons_zero, List.set_cons_succ]
            refine wpAnyH_done (by kernel_rfl) ?_ _
            go_wp2
            go_ret
            rw [hO.out]
            exact ⟨rfl, BN⟩
        · obtain rfl : k = l.length := by omega
          have HO : Hid (okUp l l.length = true) := hok
          have HB : Hid (Below w.heap.size w wr) := hbel
          clear hbel hok
          go_wp2
          go_ret
          rw [HO.out]
          exact ⟨rfl, HB.out⟩
    · have HR : Hid (fineB need l = false) := by
        unfold Hid fineB; rw [yes2 hn, decide_eq_false hln]; rfl
      have hlt0 : decide ((l.length : Int) < need) = true := decide_eq_true (by omega)
      rw [HR.out]
      go_enter Tryd.func44, Tryd.ntmps44
      go_wp2_with fail
      refine (G0.is_spec need 1 6 _).mono ?_
      rintro e w1 ⟨rfl, rfl⟩
      rw [yes2 hn]
      go_wp2
      go_ret
      exact ⟨rfl, Below.refl _ _⟩
  · have HR : Hid (fineB need l = false) := by
      unfold Hid fineB; rw [no2 hn]; rfl
    rw [HR.out]
    go_enter Tryd.func44, Tryd.ntmps44
    go_wp2_with fail
    refine (G0.is_spec need 1 6 _).mono ?_
    rintro e w1 ⟨rfl, rfl⟩
    rw [no2 hn]
    go_wp2
    go_ret
    exact ⟨rfl, Below.refl _ _⟩
end Go.Proofs.YtianmmonkllhpaaDoor.J4
