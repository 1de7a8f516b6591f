/-
  May shares be joined: in the program.
-/
import Derived.Test.YtianmmonkllhpaaDoorL0
import Derived.Test.YtianmmonkllhpaaDoorJ4
import Derived.Deep.OwnRows
namespace Go.Proofs.YtianmmonkllhpaaDoor.L2
open Go.RowKit
open Go.Proofs.YtianmmonkllhpaaDoor.C0 Go.Proofs.YtianmmonkllhpaaDoor.HB
open Go.Proofs.YtianmmonkllhpaaDoor.SH (Sh Shares)
open Go.Proofs.YtianmmonkllhpaaDoor.J1 (shareR yes2 no2)
open Go.Proofs.YtianmmonkllhpaaDoor.J4 (at_ formOk newAt okUp fineB newAt_no okUp_no at_get)

/-- Was a place seen among so many? -/
def seenUp (l : List Sh) (x : Int) : Nat → Bool
  | 0 => false
  | j + 1 => seenUp l x j || (at_ l j).1 == x
theorem new_seen (l : List Sh) (k : Nat) : ∀ j, newAt l k j = !seenUp l (at_ l k).1 j
  | 0 => rfl
  | j + 1 => by unfold newAt seenUp; rw [new_seen l k j]; cases seenUp l (at_ l k).1 j <;> simp
def mayR (need : Int) (l : List Sh) : Bool := decide (l.length ≤ 400) && fineB need l
theorem shareR_ix {i : Int} {d : ByteArray} (h : shareR i d = true) : ∃ n : Nat, i = n ∧ 1 ≤ n ∧ n < 7 := by
  have h := of_decide_eq_true h
  obtain ⟨n, rfl⟩ := Int.eq_ofNat_of_zero_le (show 0 ≤ i by omega)
  exact ⟨n, rfl, by omega, by omega⟩
/-- Which places were seen, in a row of seven. -/
def Row7 (l : List Sh) (g k : Nat) (x : World) : Prop := ∃ f, x.rowIs g 72 7 f ∧ ∀ j : Nat, j < 7 → f j = .bool (seenUp l (j : Int) k)
theorem Row7.start (l : List Sh) (w : World) : Row7 l w.heap.size 0 (w.alloc (.cells #[.bool false, .bool false, .bool false, .bool false, .bool false, .bool false, .bool false] 72)) := by
  refine ⟨fun _ => .bool false, ⟨_, Go.Deep.blk_alloc_new _ _, rfl, fun j hj => ?_⟩, fun j hj => rfl⟩
  have h7 : j = 0 ∨ j = 1 ∨ j = 2 ∨ j = 3 ∨ j = 4 ∨ j = 5 ∨ j = 6 := by omega
  rcases h7 with rfl | rfl | rfl | rfl | rfl | rfl | rfl <;> rfl
theorem Row7.below {l : List Sh} {g k : Nat} {x y : World} (h : Row7 l g k x) (hb : Below x.heap.size x y) : Row7 l g k y := by
  obtain ⟨f, h1, h2⟩ := h
  exact ⟨f, h1.of_block (hb.block _ h1.lt), h2⟩
theorem Row7.next {l : List Sh} {g k n : Nat} {x : World} (h : Row7 l g k x) (hn : (at_ l k).1 = (n : Int)) : Row7 l g (k + 1) (x.setCell ⟨g, n, none⟩ (.bool true)) := by
  obtain ⟨f, h1, h2⟩ := h
  refine ⟨_, h1.set _ _, fun j hj => ?_⟩
  show (if j = n then _ else f j) = .bool (seenUp l (j : Int) k || (at_ l k).1 == (j : Int))
  rw [hn]
  by_cases e : j = n
  · subst e; rw [if_pos rfl]; simp
  · rw [if_neg e, h2 j hj]
    have : ((n : Int) == (j : Int)) = false := by simp; omega
    rw [this, Bool.or_false]

set_option maxRecDepth 100000 in
set_option maxHeartbeats 6400000 in
theorem may_impl (need : Int) (v : Value) (l : List Sh) (w : World) (hv : Shares w v l) (hz : ∀ s ∈ l, s.2.size ≤ maxLen) :
    Calls Tryd.prog 41 #[.int .i64 need, v] w fun e w' => e = .returned (.bool (mayR need l)) ∧ Below w.heap.size w w' := by
  obtain ⟨a, cap, rfl, hl, hc⟩ := hv
  unfold maxLen at hl
  by_cases h4 : l.length ≤ 400
  · have h4b : ¬ (400 : Int) < (l.length : Int) := by omega
    by_cases hn : 1 ≤ need ∧ need ≤ 6
    · by_cases hln : need ≤ l.length
      · have HR : Hid (mayR need l = okUp l l.length) := by
          unfold Hid mayR fineB; rw [yes2 hn, decide_eq_true hln, decide_eq_true h4]; rfl
        have hlt0 : decide ((l.length : Int) < need) = false := decide_eq_false (by omega)
        rw [HR.out]
        go_enter Tryd.func41, Tryd.ntmps41
        go_wp2_with fail
        refine (H0.from_impl 1 need 6 _).mono ?_
        rintro e w1 ⟨rfl, rfl⟩
        rw [yes2 hn]
        go_wp2_with fail
        go_loopw [24] (fun i x => ∃ k : Nat, k ≤ l.length ∧ i = .int .i64 (k : Nat) ∧ okUp l k = true ∧ Row7 l w.heap.size k x ∧ Below w.heap.size w x) (fun i _ => l.length - (intOf i).toNat)
        case atStart =>
          exact ⟨0, Nat.zero_le _, rfl, rfl, Row7.start l w, albel _ _⟩
        case round =>
          obtain ⟨k, hk, rfl, hok, hrow, hbel⟩ := hrel
          by_cases hlt : k < l.length
          · have hlt' : (k : Int) < (l.length : Int) := by omega
            have h0lt : 0 < l.length := by omega
            obtain ⟨b, off, rfl, hb, hcc⟩ := hc (by omega)
            have hg0 := at_get (l := l) (k := 0) (by omega)
            have hgk := at_get hlt
            have hs0 := hz _ (List.mem_of_getElem? hg0)
            have hsk := hz _ (List.mem_of_getElem? hgk)
            have hc0 := (hcc 0 _ hg0).2
            rw [show off + 0 * 2 + 1 = off + 1 by omega] at hc0
            have hck := hcc k _ hgk
            have c0 := (hbel.cell (p := ⟨b, off + k * 2, none⟩) hb).trans hck.1
            have c1 := (hbel.cell (p := ⟨b, off + k * 2 + 1, none⟩) hb).trans hck.2
            have HC0 : Hid (∀ y, Below w.heap.size w y → y.cell? ⟨b, off + 1, none⟩ = some (.string (at_ l 0).2)) := fun y hy => (hy.cell (p := ⟨b, off + 1, none⟩) hb).trans hc0
            have HB : Hid (Below w.heap.size w wr) := hbel
            have HRow : Hid (Row7 l w.heap.size k wr) := hrow
            have HF : Hid (formOk l k = (shareR (at_ l k).1 (at_ l k).2 && (at_ l k).2.size == (at_ l 0).2.size)) := rfl
            have HNS : Hid (newAt l k k = !seenUp l (at_ l k).1 k) := new_seen l k k
            have HOK : Hid (okUp l k = true) := hok
            have HNO : Hid (formOk l k = false ∨ newAt l k k = false → okUp l l.length = false) := fun h => okUp_no h _ hlt
            have HNX : Hid (formOk l k = true → newAt l k k = true → okUp l (k + 1) = true) := fun h h' => by
              show (okUp l k && (formOk l k && newAt l k k)) = true
              rw [HOK.out, h, h']; rfl
            have HNR : Hid (∀ n x, (at_ l k).1 = (n : Nat) → Row7 l w.heap.size k x → Row7 l w.heap.size (k + 1) (x.setCell ⟨w.heap.size, n, none⟩ (.bool true))) := fun n x h hr => hr.next h
            have CS : Hid (∀ W, Calls Tryd.prog 19 #[.agg #[.int .i64 (at_ l k).1, .string (at_ l k).2]] W fun e w' => e = .returned (.bool (shareR (at_ l k).1 (at_ l k).2)) ∧ Below W.heap.size W w') := fun W => L0.right_impl _ _ W hsk
            have hix : Hid (shareR (at_ l k).1 (at_ l k).2 = true → ∃ n : Nat, (at_ l k).1 = n ∧ 1 ≤ n ∧ n < 7) := fun h => shareR_ix h
            unfold maxLen at hs0 hsk
            clear hbel hrow hok hcc hc hck hg0 hgk hc0
            generalize hI : (at_ l k).1 = I at *
            generalize (at_ l k).2 = dk at *
            generalize (at_ l 0).2 = d0 at *
            go_wp2_with fail
            obtain ⟨W1, hW1⟩ : ∃ x, wr.alloc (.cells #[.int .i64 I, .string dk] 33) = x := ⟨_, rfl⟩
            have B1 : Hid (Below wr.heap.size wr W1) := by rw [← hW1]; exact albel _ _
            have Z1 : Hid (W1.heap.size = wr.heap.size + 1) := by unfold Hid; rw [← hW1]; exact asz _ _
            have ZR : Hid (w.heap.size < wr.heap.size) := by obtain ⟨f, h1, _⟩ := HRow.out; exact h1.lt
            have K1 : Hid (∀ y, Below W1.heap.size W1 y → y.cell? ⟨wr.heap.size, 0, none⟩ = some (.int .i64 I) ∧ y.cell? ⟨wr.heap.size, 1, none⟩ = some (.string dk)) := fun y hy => by
              have h1 := hy.cell (p := ⟨wr.heap.size, 0, none⟩) (by have := Z1.out; show wr.heap.size < _; omega)
              have h2 := hy.cell (p := ⟨wr.heap.size, 1, none⟩) (by have := Z1.out; show wr.heap.size < _; omega)
              rw [h1, h2, ← hW1]
              simp [go_sem]
            rw [hW1]
            clear hW1 c0 c1
            have BW : Hid (∀ y, Below W1.heap.size W1 y → Below w.heap.size w y) := fun y hy => HB.out.trans ((B1.out.trans (hy.mono B1.out.size)).mono HB.out.size)
            cases h1 : shareR I dk with
            | true =>
              obtain ⟨n, rfl, n1, n7⟩ := hix.out h1
              rw [h1] at CS HF
              have n7' : (n : Int) < 7 := by omega
              obtain ⟨sv, hsv⟩ : ∃ s, seenUp l (n : Int) k = s := ⟨_, rfl⟩
              rw [hsv] at HNS
              have RW : Hid (∀ y, Below W1.heap.size W1 y → Row7 l w.heap.size k y) := fun y hy => HRow.out.below (B1.out.trans (hy.mono B1.out.size))
              have SC : Hid (∀ y, Below W1.heap.size W1 y → y.cell? ⟨w.heap.size, n, none⟩ = some (.bool sv) ∧ y.frozen? ⟨w.heap.size, n, none⟩ = false) := fun y hy => by
                obtain ⟨f, q1, q2⟩ := RW.out y hy
                refine ⟨?_, q1.frozen n⟩
                rw [q1.cell n7, q2 n n7, hsv]
              clear hsv
              have SS : Hid (∀ y, Below W1.heap.size W1 y → y.cell? ⟨wr.heap.size, 0, none⟩ = some (.int .i64 (n : Nat)) ∧ y.cell? ⟨wr.heap.size, 1, none⟩ = some (.string dk) ∧ y.cell? ⟨b, off + 1, none⟩ = some (.string d0) ∧ y.cell? ⟨w.heap.size, n, none⟩ = some (.bool sv)) := fun y hy =>
                ⟨(K1.out y hy).1, (K1.out y hy).2, HC0.out y (BW.out y hy), (SC.out y hy).1⟩
              cases sv with
              | true =>
                have HO : Hid (okUp l l.length = false) := HNO.out (.inr HNS.out)
                refine wp_region_held_drew (S := (fun y => y.cell? ⟨wr.heap.size, 0, none⟩ = some (.int .i64 (n : Nat)) ∧ y.cell? ⟨wr.heap.size, 1, none⟩ = some (.string dk) ∧ y.cell? ⟨b, off + 1, none⟩ = some (.string d0) ∧ y.cell? ⟨w.heap.size, n, none⟩ = some (.bool true))) (by kernel_rfl) (SS.out _ (Below.refl _ _).drew) (fun hHeld => ?_)
                refine TK.take_at 0 (some 28) (v := ?va0) rfl rfl (by kernel_rfl) (by kernel_rfl) (by kernel_rfl) (fun _ _ _ h => h) (Or.inl ⟨rfl, ?ha0⟩) hHeld ?ra0
                case ha0 => intro wq hSw; (try dsimp only at hSw); go_simp; all_goals (with_reducible rfl)
                try simp only [Act.put, List.setIfInBounds_toArray, List.set_cons_zero, List.set_cons_succ]
                refine wpAnyH_ready (rs := [1]) (by kernel_rfl) (by simp) ?_
                refine AllReadyH.cons rfl (fun K hK => ?_) AllReadyH.nil
                go_simp
                (go_at_call 19; refine (CS.out _).mono ?_; rintro e xn ⟨rfl, bn⟩; have BN : Below W1.heap.size W1 xn := (Below.refl _ _).drew.trans bn)
                try (go_wp2_with fail)
                refine hK.out _ _ ?_ (fun hHeld => ?_)
                · exact SS.out _ BN
                clear hK K
                try simp only [Act.put, List.setIfInBounds_toArray, List.set_cons_zero, List.set_cons_succ]
                refine TK.take_at 2 (some 30) (v := ?va2) rfl rfl (by kernel_rfl) (by kernel_rfl) (by kernel_rfl) (fun _ _ _ h => h) (Or.inl ⟨rfl, ?ha2⟩) hHeld ?ra2
                case ha2 => intro wq hSw; (try dsimp only at hSw); go_simp; all_goals (with_reducible rfl)
                try simp only [Act.put, List.setIfInBounds_toArray, List.set_cons_zero, List.set_cons_succ]
                refine TK.take_at 3 (some 31) (v := ?va3) rfl rfl (by kernel_rfl) (by kernel_rfl) (by kernel_rfl) (fun _ _ _ h => h) (Or.inl ⟨rfl, ?ha3⟩) hHeld ?ra3
                case ha3 => intro wq hSw; (try dsimp only at hSw); go_simp; all_goals (with_reducible rfl)
                try simp only [Act.put, List.setIfInBounds_toArray, List.set_cons_zero, List.set_cons_succ]
                refine TK.take_at 4 (some 32) (v := ?va4) rfl rfl (by kernel_rfl) (by kernel_rfl) (by kernel_rfl) (fun _ _ _ h => h) (Or.inl ⟨rfl, ?ha4⟩) hHeld ?ra4
                case ha4 => intro wq hSw; (try dsimp only at hSw); go_simp; all_goals (with_reducible rfl)
                try simp only [Act.put, List.setIfInBounds_toArray, List.set_cons_zero, List.set_cons_succ]
                refine TK.take_at 5 (some 33) (v := ?va5) rfl rfl (by kernel_rfl) (by kernel_rfl) (by kernel_rfl) (fun _ _ _ h => h) (Or.inl ⟨rfl, ?ha5⟩) hHeld ?ra5
                case ha5 => intro wq hSw; (try dsimp only at hSw); go_simp; all_goals (with_reducible rfl)
                try simp only [Act.put, List.setIfInBounds_toArray, List.set_cons_zero, List.set_cons_succ]
                refine TK.take_at 6 (some 34) (v := ?va6) rfl rfl (by kernel_rfl) (by kernel_rfl) (by kernel_rfl) (fun _ _ _ h => h) (Or.inl ⟨rfl, ?ha6⟩) hHeld ?ra6
                case ha6 => intro wq hSw; (try dsimp only at hSw); go_simp; all_goals (with_reducible rfl)
                try simp only [Act.put, List.setIfInBounds_toArray, List.set_cons_zero, List.set_cons_succ]
                refine TK.take_at 7 (some 35) (v := ?va7) rfl rfl (by kernel_rfl) (by kernel_rfl) (by kernel_rfl) (fun _ _ _ h => h) (Or.inl ⟨rfl, ?ha7⟩) hHeld ?ra7
                case ha7 => intro wq hSw; (try dsimp only at hSw); go_simp; all_goals (with_reducible rfl)
                try simp only [Act.put, List.setIfInBounds_toArray, List.set_cons_zero, List.set_cons_succ]
                refine TK.take_at 8 (some 36) (v := ?va8) rfl rfl (by kernel_rfl) (by kernel_rfl) (by kernel_rfl) (fun _ _ _ h => h) (Or.inl ⟨rfl, ?ha8⟩) hHeld ?ra8
                case ha8 => intro wq hSw; (try dsimp only at hSw); go_simp; all_goals (with_reducible rfl)
                try simp only [Act.put, List.setIfInBounds_toArray, List.set_cons_zero, List.set_cons_succ]
                refine TK.take_at 9 (some 37) (v := ?va9) rfl rfl (by kernel_rfl) (by kernel_rfl) (by kernel_rfl) (fun _ _ _ h => h) (Or.inl ⟨rfl, ?ha9⟩) hHeld ?ra9
                case ha9 => intro wq hSw; (try dsimp only at hSw); go_simp; all_goals (with_reducible rfl)
                try simp only [Act.put, List.setIfInBounds_toArray, List.set_cons_zero, List.set_cons_succ]
                refine TK.take_at 10 (some 38) (v := undef) rfl rfl (by kernel_rfl) (by kernel_rfl) (by kernel_rfl) (fun _ _ _ h => h) (Or.inr ⟨rfl, rfl⟩) hHeld ?_
                try simp only [Act.put, List.setIfInBounds_toArray, List.set_cons_zero, List.set_cons_succ]
                refine TK.take_at 11 (some 39) (v := undef) rfl rfl (by kernel_rfl) (by kernel_rfl) (by kernel_rfl) (fun _ _ _ h => h) (Or.inr ⟨rfl, rfl⟩) hHeld ?_
                try simp only [Act.put, List.setIfInBounds_toArray, List.set_cons_zero, List.set_cons_succ]
                refine TK.take_at 12 (some 40) (v := undef) rfl rfl (by kernel_rfl) (by kernel_rfl) (by kernel_rfl) (fun _ _ _ h => h) (Or.inr ⟨rfl, rfl⟩) hHeld ?_
                try simp only [Act.put, List.setIfInBounds_toArray, List.set_cons_zero, List.set_cons_succ]
                refine TK.take_at 13 (some 41) (v := undef) rfl rfl (by kernel_rfl) (by kernel_rfl) (by kernel_rfl) (fun _ _ _ h => h) (Or.inr ⟨rfl, rfl⟩) hHeld ?_
                try simp only [Act.put, List.setIfInBounds_toArray, List.set_cons_zero, List.set_cons_succ]
                refine TK.take_at 14 (some 42) (v := undef) rfl rfl (by kernel_rfl) (by kernel_rfl) (by kernel_rfl) (fun _ _ _ h => h) (Or.inr ⟨rfl, rfl⟩) hHeld ?_
                try simp only [Act.put, List.setIfInBounds_toArray, List.set_cons_zero, List.set_cons_succ]
                refine TK.take_at 15 (some 43) (v := undef) rfl rfl (by kernel_rfl) (by kernel_rfl) (by kernel_rfl) (fun _ _ _ h => h) (Or.inr ⟨rfl, rfl⟩) hHeld ?_
                try simp only [Act.put, List.setIfInBounds_toArray, List.set_cons_zero, List.set_cons_succ]
                refine TK.take_at 16 (some 44) (v := undef) rfl rfl (by kernel_rfl) (by kernel_rfl) (by kernel_rfl) (fun _ _ _ h => h) (Or.inr ⟨rfl, rfl⟩) hHeld ?_
                try simp only [Act.put, List.setIfInBounds_toArray, List.set_cons_zero, List.set_cons_succ]
                refine TK.take_at 17 (some 45) (v := undef) rfl rfl (by kernel_rfl) (by kernel_rfl) (by kernel_rfl) (fun _ _ _ h => h) (Or.inr ⟨rfl, rfl⟩) hHeld ?_
                try simp only [Act.put, List.setIfInBounds_toArray, List.set_cons_zero, List.set_cons_succ]
                refine TK.take_at 18 (some 46) (v := undef) rfl rfl (by kernel_rfl) (by kernel_rfl) (by kernel_rfl) (fun _ _ _ h => h) (Or.inr ⟨rfl, rfl⟩) hHeld ?_
                try simp only [Act.put, List.setIfInBounds_toArray, List.set_cons_zero, List.set_cons_succ]
                refine TK.take_at 19 (some 47) (v := ?va19) rfl rfl (by kernel_rfl) (by kernel_rfl) (by kernel_rfl) (fun _ _ _ h => h) (Or.inl ⟨rfl, ?ha19⟩) hHeld ?ra19
                case ha19 => intro wq hSw; (try dsimp only at hSw); go_simp; all_goals (with_reducible rfl)
                try simp only [Act.put, List.setIfInBounds_toArray, List.set_cons_zero, List.set_cons_succ]
                refine wpAnyH_done (by kernel_rfl) ?_ _
                go_wp2
                go_ret
                rw [HO.out]
                exact ⟨rfl, BW.out _ BN⟩
              | false =>
                by_cases hq : dk.size = d0.size
                · have hqb : ((dk.size : Int) != (d0.size : Int)) = false := by rw [hq]; simp
                  have HN2 : Hid (okUp l (k + 1) = true) := HNX.out (by rw [HF.out, hq]; simp) (by rw [HNS.out]; rfl)
                  refine wp_region_held_drew (S := (fun y => y.cell? ⟨wr.heap.size, 0, none⟩ = some (.int .i64 (n : Nat)) ∧ y.cell? ⟨wr.heap.size, 1, none⟩ = some (.string dk) ∧ y.cell? ⟨b, off + 1, none⟩ = some (.string d0) ∧ y.cell? ⟨w.heap.size, n, none⟩ = some (.bool false))) (by kernel_rfl) (SS.out _ (Below.refl _ _).drew) (fun hHeld => ?_)
                  refine TK.take_at 0 (some 28) (v := ?vb0) rfl rfl (by kernel_rfl) (by kernel_rfl) (by kernel_rfl) (fun _ _ _ h => h) (Or.inl ⟨rfl, ?hb0⟩) hHeld ?rb0
                  case hb0 => intro wq hSw; (try dsimp only at hSw); go_simp; all_goals (with_reducible rfl)
                  try simp only [Act.put, List.setIfInBounds_toArray, List.set_cons_zero, List.set_cons_succ]
                  refine wpAnyH_ready (rs := [1]) (by kernel_rfl) (by simp) ?_
                  refine AllReadyH.cons rfl (fun K hK => ?_) AllReadyH.nil
                  go_simp
                  (go_at_call 19; refine (CS.out _).mono ?_; rintro e xn ⟨rfl, bn⟩; have BN : Below W1.heap.size W1 xn := (Below.refl _ _).drew.trans bn)
                  try (go_wp2_with fail)
                  refine hK.out _ _ ?_ (fun hHeld => ?_)
                  · exact SS.out _ BN
                  clear hK K
                  try simp only [Act.put, List.setIfInBounds_toArray, List.set_cons_zero, List.set_cons_succ]
                  refine TK.take_at 2 (some 30) (v := ?vb2) rfl rfl (by kernel_rfl) (by kernel_rfl) (by kernel_rfl) (fun _ _ _ h => h) (Or.inl ⟨rfl, ?hb2⟩) hHeld ?rb2
                  case hb2 => intro wq hSw; (try dsimp only at hSw); go_simp; all_goals (with_reducible rfl)
                  try simp only [Act.put, List.setIfInBounds_toArray, List.set_cons_zero, List.set_cons_succ]
                  refine TK.take_at 3 (some 31) (v := ?vb3) rfl rfl (by kernel_rfl) (by kernel_rfl) (by kernel_rfl) (fun _ _ _ h => h) (Or.inl ⟨rfl, ?hb3⟩) hHeld ?rb3
                  case hb3 => intro wq hSw; (try dsimp only at hSw); go_simp; all_goals (with_reducible rfl)
                  try simp only [Act.put, List.setIfInBounds_toArray, List.set_cons_zero, List.set_cons_succ]
                  refine TK.take_at 4 (some 32) (v := ?vb4) rfl rfl (by kernel_rfl) (by kernel_rfl) (by kernel_rfl) (fun _ _ _ h => h) (Or.inl ⟨rfl, ?hb4⟩) hHeld ?rb4
                  case hb4 => intro wq hSw; (try dsimp only at hSw); go_simp; all_goals (with_reducible rfl)
                  try simp only [Act.put, List.setIfInBounds_toArray, List.set_cons_zero, List.set_cons_succ]
                  refine TK.take_at 5 (some 33) (v := ?vb5) rfl rfl (by kernel_rfl) (by kernel_rfl) (by kernel_rfl) (fun _ _ _ h => h) (Or.inl ⟨rfl, ?hb5⟩) hHeld ?rb5
                  case hb5 => intro wq hSw; (try dsimp only at hSw); go_simp; all_goals (with_reducible rfl)
                  try simp only [Act.put, List.setIfInBounds_toArray, List.set_cons_zero, List.set_cons_succ]
                  refine TK.take_at 6 (some 34) (v := ?vb6) rfl rfl (by kernel_rfl) (by kernel_rfl) (by kernel_rfl) (fun _ _ _ h => h) (Or.inl ⟨rfl, ?hb6⟩) hHeld ?rb6
                  case hb6 => intro wq hSw; (try dsimp only at hSw); go_simp; all_goals (with_reducible rfl)
                  try simp only [Act.put, List.setIfInBounds_toArray, List.set_cons_zero, List.set_cons_succ]
                  refine TK.take_at 7 (some 35) (v := ?vb7) rfl rfl (by kernel_rfl) (by kernel_rfl) (by kernel_rfl) (fun _ _ _ h => h) (Or.inl ⟨rfl, ?hb7⟩) hHeld ?rb7
                  case hb7 => intro wq hSw; (try dsimp only at hSw); go_simp; all_goals (with_reducible rfl)
                  try simp only [Act.put, List.setIfInBounds_toArray, List.set_cons_zero, List.set_cons_succ]
                  refine TK.take_at 8 (some 36) (v := ?vb8) rfl rfl (by kernel_rfl) (by kernel_rfl) (by kernel_rfl) (fun _ _ _ h => h) (Or.inl ⟨rfl, ?hb8⟩) hHeld ?rb8
                  case hb8 => intro wq hSw; (try dsimp only at hSw); go_simp; all_goals (with_reducible rfl)
                  try simp only [Act.put, List.setIfInBounds_toArray, List.set_cons_zero, List.set_cons_succ]
                  refine TK.take_at 9 (some 37) (v := ?vb9) rfl rfl (by kernel_rfl) (by kernel_rfl) (by kernel_rfl) (fun _ _ _ h => h) (Or.inl ⟨rfl, ?hb9⟩) hHeld ?rb9
                  case hb9 => intro wq hSw; (try dsimp only at hSw); go_simp; all_goals (with_reducible rfl)
                  try simp only [Act.put, List.setIfInBounds_toArray, List.set_cons_zero, List.set_cons_succ]
                  refine TK.take_at 10 (some 38) (v := ?vb10) rfl rfl (by kernel_rfl) (by kernel_rfl) (by kernel_rfl) (fun _ _ _ h => h) (Or.inl ⟨rfl, ?hb10⟩) hHeld ?rb10
                  case hb10 => intro wq hSw; (try dsimp only at hSw); go_simp; all_goals (with_reducible rfl)
                  try simp only [Act.put, List.setIfInBounds_toArray, List.set_cons_zero, List.set_cons_succ]
                  refine TK.take_at 11 (some 39) (v := ?vb11) rfl rfl (by kernel_rfl) (by kernel_rfl) (by kernel_rfl) (fun _ _ _ h => h) (Or.inl ⟨rfl, ?hb11⟩) hHeld ?rb11
                  case hb11 => intro wq hSw; (try dsimp only at hSw); go_simp; all_goals (with_reducible rfl)
                  try simp only [Act.put, List.setIfInBounds_toArray, List.set_cons_zero, List.set_cons_succ]
                  refine TK.take_at 12 (some 40) (v := ?vb12) rfl rfl (by kernel_rfl) (by kernel_rfl) (by kernel_rfl) (fun _ _ _ h => h) (Or.inl ⟨rfl, ?hb12⟩) hHeld ?rb12
                  case hb12 => intro wq hSw; (try dsimp only at hSw); go_simp; all_goals (with_reducible rfl)
                  try simp only [Act.put, List.setIfInBounds_toArray, List.set_cons_zero, List.set_cons_succ]
                  refine TK.take_at 13 (some 41) (v := ?vb13) rfl rfl (by kernel_rfl) (by kernel_rfl) (by kernel_rfl) (fun _ _ _ h => h) (Or.inl ⟨rfl, ?hb13⟩) hHeld ?rb13
                  case hb13 => intro wq hSw; (try dsimp only at hSw); go_simp; all_goals (with_reducible rfl)
                  try simp only [Act.put, List.setIfInBounds_toArray, List.set_cons_zero, List.set_cons_succ]
                  refine TK.take_at 14 (some 42) (v := ?vb14) rfl rfl (by kernel_rfl) (by kernel_rfl) (by kernel_rfl) (fun _ _ _ h => h) (Or.inl ⟨rfl, ?hb14⟩) hHeld ?rb14
                  case hb14 => intro wq hSw; (try dsimp only at hSw); go_simp; all_goals (with_reducible rfl)
                  try simp only [Act.put, List.setIfInBounds_toArray, List.set_cons_zero, List.set_cons_succ]
                  refine TK.take_at 15 (some 43) (v := ?vb15) rfl rfl (by kernel_rfl) (by kernel_rfl) (by kernel_rfl) (fun _ _ _ h => h) (Or.inl ⟨rfl, ?hb15⟩) hHeld ?rb15
                  case hb15 => intro wq hSw; (try dsimp only at hSw); go_simp; all_goals (with_reducible rfl)
                  try simp only [Act.put, List.setIfInBounds_toArray, List.set_cons_zero, List.set_cons_succ]
                  refine TK.take_at 16 (some 44) (v := ?vb16) rfl rfl (by kernel_rfl) (by kernel_rfl) (by kernel_rfl) (fun _ _ _ h => h) (Or.inl ⟨rfl, ?hb16⟩) hHeld ?rb16
                  case hb16 => intro wq hSw; (try dsimp only at hSw); go_simp; all_goals (with_reducible rfl)
                  try simp only [Act.put, List.setIfInBounds_toArray, List.set_cons_zero, List.set_cons_succ]
                  refine TK.take_at 17 (some 45) (v := ?vb17) rfl rfl (by kernel_rfl) (by kernel_rfl) (by kernel_rfl) (fun _ _ _ h => h) (Or.inl ⟨rfl, ?hb17⟩) hHeld ?rb17
                  case hb17 => intro wq hSw; (try dsimp only at hSw); go_simp; all_goals (with_reducible rfl)
                  try simp only [Act.put, List.setIfInBounds_toArray, List.set_cons_zero, List.set_cons_succ]
                  refine TK.take_at 18 (some 46) (v := ?vb18) rfl rfl (by kernel_rfl) (by kernel_rfl) (by kernel_rfl) (fun _ _ _ h => h) (Or.inl ⟨rfl, ?hb18⟩) hHeld ?rb18
                  case hb18 => intro wq hSw; (try dsimp only at hSw); go_simp; all_goals (with_reducible rfl)
                  try simp only [Act.put, List.setIfInBounds_toArray, List.set_cons_zero, List.set_cons_succ]
                  refine TK.take_at 19 (some 47) (v := ?vb19) rfl rfl (by kernel_rfl) (by kernel_rfl) (by kernel_rfl) (fun _ _ _ h => h) (Or.inl ⟨rfl, ?hb19⟩) hHeld ?rb19
                  case hb19 => intro wq hSw; (try dsimp only at hSw); go_simp; all_goals (with_reducible rfl)
                  try simp only [Act.put, List.setIfInBounds_toArray, List.set_cons_zero, List.set_cons_succ]
                  refine wpAnyH_done (by kernel_rfl) ?_ _
                  have hfz := (SC.out _ BN).2
                  have HE : Hid (Row7 l w.heap.size (k + 1) (xn.setCell ⟨w.heap.size, n, none⟩ (.bool true)) ∧ Below w.heap.size w (xn.setCell ⟨w.heap.size, n, none⟩ (.bool true))) :=
                    ⟨HNR.out n _ rfl (RW.out _ BN), (BW.out _ BN).setCell (Nat.le_refl _) _⟩
                  clear BN bn
                  go_wp2
                  go_roundw
                  case rel => exact ⟨k + 1, by omega, by go_num, HN2.out, HE.out.1, HE.out.2⟩
                  case measure => simp [intOf]; omega
                · have hqb : ((dk.size : Int) != (d0.size : Int)) = true := by simp; omega
                  have HO : Hid (okUp l l.length = false) := HNO.out (.inl (by rw [HF.out]; simp [hq]))
                  refine wp_region_held_drew (S := (fun y => y.cell? ⟨wr.heap.size, 0, none⟩ = some (.int .i64 (n : Nat)) ∧ y.cell? ⟨wr.heap.size, 1, none⟩ = some (.string dk) ∧ y.cell? ⟨b, off + 1, none⟩ = some (.string d0) ∧ y.cell? ⟨w.heap.size, n, none⟩ = some (.bool false))) (by kernel_rfl) (SS.out _ (Below.refl _ _).drew) (fun hHeld => ?_)
                  refine TK.take_at 0 (some 28) (v := ?vc0) rfl rfl (by kernel_rfl) (by kernel_rfl) (by kernel_rfl) (fun _ _ _ h => h) (Or.inl ⟨rfl, ?hc0⟩) hHeld ?rc0
                  case hc0 => intro wq hSw; (try dsimp only at hSw); go_simp; all_goals (with_reducible rfl)
                  try simp only [Act.put, List.setIfInBounds_toArray, List.set_cons_zero, List.set_cons_succ]
                  refine wpAnyH_ready (rs := [1]) (by kernel_rfl) (by simp) ?_
                  refine AllReadyH.cons rfl (fun K hK => ?_) AllReadyH.nil
                  go_simp
                  (go_at_call 19; refine (CS.out _).mono ?_; rintro e xn ⟨rfl, bn⟩; have BN : Below W1.heap.size W1 xn := (Below.refl _ _).drew.trans bn)
                  try (go_wp2_with fail)
                  refine hK.out _ _ ?_ (fun hHeld => ?_)
                  · exact SS.out _ BN
                  clear hK K
                  try simp only [Act.put, List.setIfInBounds_toArray, List.set_cons_zero, List.set_cons_succ]
                  refine TK.take_at 2 (some 30) (v := ?vc2) rfl rfl (by kernel_rfl) (by kernel_rfl) (by kernel_rfl) (fun _ _ _ h => h) (Or.inl ⟨rfl, ?hc2⟩) hHeld ?rc2
                  case hc2 => intro wq hSw; (try dsimp only at hSw); go_simp; all_goals (with_reducible rfl)
                  try simp only [Act.put, List.setIfInBounds_toArray, List.set_cons_zero, List.set_cons_succ]
                  refine TK.take_at 3 (some 31) (v := ?vc3) rfl rfl (by kernel_rfl) (by kernel_rfl) (by kernel_rfl) (fun _ _ _ h => h) (Or.inl ⟨rfl, ?hc3⟩) hHeld ?rc3
                  case hc3 => intro wq hSw; (try dsimp only at hSw); go_simp; all_goals (with_reducible rfl)
                  try simp only [Act.put, List.setIfInBounds_toArray, List.set_cons_zero, List.set_cons_succ]
                  refine TK.take_at 4 (some 32) (v := ?vc4) rfl rfl (by kernel_rfl) (by kernel_rfl) (by kernel_rfl) (fun _ _ _ h => h) (Or.inl ⟨rfl, ?hc4⟩) hHeld ?rc4
                  case hc4 => intro wq hSw; (try dsimp only at hSw); go_simp; all_goals (with_reducible rfl)
                  try simp only [Act.put, List.setIfInBounds_toArray, List.set_cons_zero, List.set_cons_succ]
                  refine TK.take_at 5 (some 33) (v := ?vc5) rfl rfl (by kernel_rfl) (by kernel_rfl) (by kernel_rfl) (fun _ _ _ h => h) (Or.inl ⟨rfl, ?hc5⟩) hHeld ?rc5
                  case hc5 => intro wq hSw; (try dsimp only at hSw); go_simp; all_goals (with_reducible rfl)
                  try simp only [Act.put, List.setIfInBounds_toArray, List.set_cons_zero, List.set_cons_succ]
                  refine TK.take_at 6 (some 34) (v := ?vc6) rfl rfl (by kernel_rfl) (by kernel_rfl) (by kernel_rfl) (fun _ _ _ h => h) (Or.inl ⟨rfl, ?hc6⟩) hHeld ?rc6
                  case hc6 => intro wq hSw; (try dsimp only at hSw); go_simp; all_goals (with_reducible rfl)
                  try simp only [Act.put, List.setIfInBounds_toArray, List.set_cons_zero, List.set_cons_succ]
                  refine TK.take_at 7 (some 35) (v := ?vc7) rfl rfl (by kernel_rfl) (by kernel_rfl) (by kernel_rfl) (fun _ _ _ h => h) (Or.inl ⟨rfl, ?hc7⟩) hHeld ?rc7
                  case hc7 => intro wq hSw; (try dsimp only at hSw); go_simp; all_goals (with_reducible rfl)
                  try simp only [Act.put, List.setIfInBounds_toArray, List.set_cons_zero, List.set_cons_succ]
                  refine TK.take_at 8 (some 36) (v := ?vc8) rfl rfl (by kernel_rfl) (by kernel_rfl) (by kernel_rfl) (fun _ _ _ h => h) (Or.inl ⟨rfl, ?hc8⟩) hHeld ?rc8
                  case hc8 => intro wq hSw; (try dsimp only at hSw); go_simp; all_goals (with_reducible rfl)
                  try simp only [Act.put, List.setIfInBounds_toArray, List.set_cons_zero, List.set_cons_succ]
                  refine TK.take_at 9 (some 37) (v := ?vc9) rfl rfl (by kernel_rfl) (by kernel_rfl) (by kernel_rfl) (fun _ _ _ h => h) (Or.inl ⟨rfl, ?hc9⟩) hHeld ?rc9
                  case hc9 => intro wq hSw; (try dsimp only at hSw); go_simp; all_goals (with_reducible rfl)
                  try simp only [Act.put, List.setIfInBounds_toArray, List.set_cons_zero, List.set_cons_succ]
                  refine TK.take_at 10 (some 38) (v := ?vc10) rfl rfl (by kernel_rfl) (by kernel_rfl) (by kernel_rfl) (fun _ _ _ h => h) (Or.inl ⟨rfl, ?hc10⟩) hHeld ?rc10
                  case hc10 => intro wq hSw; (try dsimp only at hSw); go_simp; all_goals (with_reducible rfl)
                  try simp only [Act.put, List.setIfInBounds_toArray, List.set_cons_zero, List.set_cons_succ]
                  refine TK.take_at 11 (some 39) (v := ?vc11) rfl rfl (by kernel_rfl) (by kernel_rfl) (by kernel_rfl) (fun _ _ _ h => h) (Or.inl ⟨rfl, ?hc11⟩) hHeld ?rc11
                  case hc11 => intro wq hSw; (try dsimp only at hSw); go_simp; all_goals (with_reducible rfl)
                  try simp only [Act.put, List.setIfInBounds_toArray, List.set_cons_zero, List.set_cons_succ]
                  refine TK.take_at 12 (some 40) (v := ?vc12) rfl rfl (by kernel_rfl) (by kernel_rfl) (by kernel_rfl) (fun _ _ _ h => h) (Or.inl ⟨rfl, ?hc12⟩) hHeld ?rc12
                  case hc12 => intro wq hSw; (try dsimp only at hSw); go_simp; all_goals (with_reducible rfl)
                  try simp only [Act.put, List.setIfInBounds_toArray, List.set_cons_zero, List.set_cons_succ]
                  refine TK.take_at 13 (some 41) (v := ?vc13) rfl rfl (by kernel_rfl) (by kernel_rfl) (by kernel_rfl) (fun _ _ _ h => h) (Or.inl ⟨rfl, ?hc13⟩) hHeld ?rc13
                  case hc13 => intro wq hSw; (try dsimp only at hSw); go_simp; all_goals (with_reducible rfl)
                  try simp only [Act.put, List.setIfInBounds_toArray, List.set_cons_zero, List.set_cons_succ]
                  refine TK.take_at 14 (some 42) (v := ?vc14) rfl rfl (by kernel_rfl) (by kernel_rfl) (by kernel_rfl) (fun _ _ _ h => h) (Or.inl ⟨rfl, ?hc14⟩) hHeld ?rc14
                  case hc14 => intro wq hSw; (try dsimp only at hSw); go_simp; all_goals (with_reducible rfl)
                  try simp only [Act.put, List.setIfInBounds_toArray, List.set_cons_zero, List.set_cons_succ]
                  refine TK.take_at 15 (some 43) (v := ?vc15) rfl rfl (by kernel_rfl) (by kernel_rfl) (by kernel_rfl) (fun _ _ _ h => h) (Or.inl ⟨rfl, ?hc15⟩) hHeld ?rc15
                  case hc15 => intro wq hSw; (try dsimp only at hSw); go_simp; all_goals (with_reducible rfl)
                  try simp only [Act.put, List.setIfInBounds_toArray, List.set_cons_zero, List.set_cons_succ]
                  refine TK.take_at 16 (some 44) (v := ?vc16) rfl rfl (by kernel_rfl) (by kernel_rfl) (by kernel_rfl) (fun _ _ _ h => h) (Or.inl ⟨rfl, ?hc16⟩) hHeld ?rc16
                  case hc16 => intro wq hSw; (try dsimp only at hSw); go_simp; all_goals (with_reducible rfl)
                  try simp only [Act.put, List.setIfInBounds_toArray, List.set_cons_zero, List.set_cons_succ]
                  refine TK.take_at 17 (some 45) (v := ?vc17) rfl rfl (by kernel_rfl) (by kernel_rfl) (by kernel_rfl) (fun _ _ _ h => h) (Or.inl ⟨rfl, ?hc17⟩) hHeld ?rc17
                  case hc17 => intro wq hSw; (try dsimp only at hSw); go_simp; all_goals (with_reducible rfl)
                  try simp only [Act.put, List.setIfInBounds_toArray, List.set_cons_zero, List.set_cons_succ]
                  refine TK.take_at 18 (some 46) (v := ?vc18) rfl rfl (by kernel_rfl) (by kernel_rfl) (by kernel_rfl) (fun _ _ _ h => h) (Or.inl ⟨rfl, ?hc18⟩) hHeld ?rc18
                  case hc18 => intro wq hSw; (try dsimp only at hSw); go_simp; all_goals (with_reducible rfl)
                  try simp only [Act.put, List.setIfInBounds_toArray, List.set_cons_zero, List.set_cons_succ]
                  refine TK.take_at 19 (some 47) (v := ?vc19) rfl rfl (by kernel_rfl) (by kernel_rfl) (by kernel_rfl) (fun _ _ _ h => h) (Or.inl ⟨rfl, ?hc19⟩) hHeld ?rc19
                  case hc19 => intro wq hSw; (try dsimp only at hSw); go_simp; all_goals (with_reducible rfl)
                  try simp only [Act.put, List.setIfInBounds_toArray, List.set_cons_zero, List.set_cons_succ]
                  refine wpAnyH_done (by kernel_rfl) ?_ _
                  go_wp2
                  go_ret
                  rw [HO.out]
                  exact ⟨rfl, BW.out _ BN⟩
            | false =>
              rw [h1] at CS HF
              have HO : Hid (okUp l l.length = false) := HNO.out (.inl HF.out)
              refine wp_region_held_drew (S := (fun y => y.cell? ⟨wr.heap.size, 0, none⟩ = some (.int .i64 I) ∧ y.cell? ⟨wr.heap.size, 1, none⟩ = some (.string dk))) (by kernel_rfl) (K1.out _ (Below.refl _ _).drew) (fun hHeld => ?_)
              refine TK.take_at 0 (some 28) (v := ?vd0) rfl rfl (by kernel_rfl) (by kernel_rfl) (by kernel_rfl) (fun _ _ _ h => h) (Or.inl ⟨rfl, ?hd0⟩) hHeld ?rd0
              case hd0 => intro wq hSw; (try dsimp only at hSw); go_simp; all_goals (with_reducible rfl)
              try simp only [Act.put, List.setIfInBounds_toArray, List.set_cons_zero, List.set_cons_succ]
              refine wpAnyH_ready (rs := [1]) (by kernel_rfl) (by simp) ?_
              refine AllReadyH.cons rfl (fun K hK => ?_) AllReadyH.nil
              go_simp
              (go_at_call 19; refine (CS.out _).mono ?_; rintro e xn ⟨rfl, bn⟩; have BN : Below W1.heap.size W1 xn := (Below.refl _ _).drew.trans bn)
              try (go_wp2_with fail)
              refine hK.out _ _ ?_ (fun hHeld => ?_)
              · exact K1.out _ BN
              clear hK K
              try simp only [Act.put, List.setIfInBounds_toArray, List.set_cons_zero, List.set_cons_succ]
              refine TK.take_at 2 (some 30) (v := ?vd2) rfl rfl (by kernel_rfl) (by kernel_rfl) (by kernel_rfl) (fun _ _ _ h => h) (Or.inl ⟨rfl, ?hd2⟩) hHeld ?rd2
              case hd2 => intro wq hSw; (try dsimp only at hSw); go_simp; all_goals (with_reducible rfl)
              try simp only [Act.put, List.setIfInBounds_toArray, List.set_cons_zero, List.set_cons_succ]
              refine TK.take_at 3 (some 31) (v := ?vd3) rfl rfl (by kernel_rfl) (by kernel_rfl) (by kernel_rfl) (fun _ _ _ h => h) (Or.inl ⟨rfl, ?hd3⟩) hHeld ?rd3
              case hd3 => intro wq hSw; (try dsimp only at hSw); go_simp; all_goals (with_reducible rfl)
              try simp only [Act.put, List.setIfInBounds_toArray, List.set_cons_zero, List.set_cons_succ]
              refine TK.take_at 4 (some 32) (v := undef) rfl rfl (by kernel_rfl) (by kernel_rfl) (by kernel_rfl) (fun _ _ _ h => h) (Or.inr ⟨rfl, rfl⟩) hHeld ?_
              try simp only [Act.put, List.setIfInBounds_toArray, List.set_cons_zero, List.set_cons_succ]
              refine TK.take_at 5 (some 33) (v := undef) rfl rfl (by kernel_rfl) (by kernel_rfl) (by kernel_rfl) (fun _ _ _ h => h) (Or.inr ⟨rfl, rfl⟩) hHeld ?_
              try simp only [Act.put, List.setIfInBounds_toArray, List.set_cons_zero, List.set_cons_succ]
              refine TK.take_at 6 (some 34) (v := undef) rfl rfl (by kernel_rfl) (by kernel_rfl) (by kernel_rfl) (fun _ _ _ h => h) (Or.inr ⟨rfl, rfl⟩) hHeld ?_
              try simp only [Act.put, List.setIfInBounds_toArray, List.set_cons_zero, List.set_cons_succ]
              refine TK.take_at 7 (some 35) (v := undef) rfl rfl (by kernel_rfl) (by kernel_rfl) (by kernel_rfl) (fun _ _ _ h => h) (Or.inr ⟨rfl, rfl⟩) hHeld ?_
              try simp only [Act.put, List.setIfInBounds_toArray, List.set_cons_zero, List.set_cons_succ]
              refine TK.take_at 8 (some 36) (v := ?vd8) rfl rfl (by kernel_rfl) (by kernel_rfl) (by kernel_rfl) (fun _ _ _ h => h) (Or.inl ⟨rfl, ?hd8⟩) hHeld ?rd8
              case hd8 => intro wq hSw; (try dsimp only at hSw); go_simp; all_goals (with_reducible rfl)
              try simp only [Act.put, List.setIfInBounds_toArray, List.set_cons_zero, List.set_cons_succ]
              refine TK.take_at 9 (some 37) (v := ?vd9) rfl rfl (by kernel_rfl) (by kernel_rfl) (by kernel_rfl) (fun _ _ _ h => h) (Or.inl ⟨rfl, ?hd9⟩) hHeld ?rd9
              case hd9 => intro wq hSw; (try dsimp only at hSw); go_simp; all_goals (with_reducible rfl)
              try simp only [Act.put, List.setIfInBounds_toArray, List.set_cons_zero, List.set_cons_succ]
              refine TK.take_at 10 (some 38) (v := undef) rfl rfl (by kernel_rfl) (by kernel_rfl) (by kernel_rfl) (fun _ _ _ h => h) (Or.inr ⟨rfl, rfl⟩) hHeld ?_
              try simp only [Act.put, List.setIfInBounds_toArray, List.set_cons_zero, List.set_cons_succ]
              refine TK.take_at 11 (some 39) (v := undef) rfl rfl (by kernel_rfl) (by kernel_rfl) (by kernel_rfl) (fun _ _ _ h => h) (Or.inr ⟨rfl, rfl⟩) hHeld ?_
              try simp only [Act.put, List.setIfInBounds_toArray, List.set_cons_zero, List.set_cons_succ]
              refine TK.take_at 12 (some 40) (v := undef) rfl rfl (by kernel_rfl) (by kernel_rfl) (by kernel_rfl) (fun _ _ _ h => h) (Or.inr ⟨rfl, rfl⟩) hHeld ?_
              try simp only [Act.put, List.setIfInBounds_toArray, List.set_cons_zero, List.set_cons_succ]
              refine TK.take_at 13 (some 41) (v := undef) rfl rfl (by kernel_rfl) (by kernel_rfl) (by kernel_rfl) (fun _ _ _ h => h) (Or.inr ⟨rfl, rfl⟩) hHeld ?_
              try simp only [Act.put, List.setIfInBounds_toArray, List.set_cons_zero, List.set_cons_succ]
              refine TK.take_at 14 (some 42) (v := undef) rfl rfl (by kernel_rfl) (by kernel_rfl) (by kernel_rfl) (fun _ _ _ h => h) (Or.inr ⟨rfl, rfl⟩) hHeld ?_
              try simp only [Act.put, List.setIfInBounds_toArray, List.set_cons_zero, List.set_cons_succ]
              refine TK.take_at 15 (some 43) (v := undef) rfl rfl (by kernel_rfl) (by kernel_rfl) (by kernel_rfl) (fun _ _ _ h => h) (Or.inr ⟨rfl, rfl⟩) hHeld ?_
              try simp only [Act.put, List.setIfInBounds_toArray, List.set_cons_zero, List.set_cons_succ]
              refine TK.take_at 16 (some 44) (v := undef) rfl rfl (by kernel_rfl) (by kernel_rfl) (by kernel_rfl) (fun _ _ _ h => h) (Or.inr ⟨rfl, rfl⟩) hHeld ?_
              try simp only [Act.put, List.setIfInBounds_toArray, List.set_cons_zero, List.set_cons_succ]
              refine TK.take_at 17 (some 45) (v := undef) rfl rfl (by kernel_rfl) (by kernel_rfl) (by kernel_rfl) (fun _ _ _ h => h) (Or.inr ⟨rfl, rfl⟩) hHeld ?_
              try simp only [Act.put, List.setIfInBounds_toArray, List.set_cons_zero, List.set_cons_succ]
              refine TK.take_at 18 (some 46) (v := undef) rfl rfl (by kernel_rfl) (by kernel_rfl) (by kernel_rfl) (fun _ _ _ h => h) (Or.inr ⟨rfl, rfl⟩) hHeld ?_
              try simp only [Act.put, List.setIfInBounds_toArray, List.set_cons_zero, List.set_cons_succ]
              refine TK.take_at 19 (some 47) (v := ?vd19) rfl rfl (by kernel_rfl) (by kernel_rfl) (by kernel_rfl) (fun _ _ _ h => h) (Or.inl ⟨rfl, ?hd19⟩) hHeld ?rd19
              case hd19 => intro wq hSw; (try dsimp only at hSw); go_simp; all_goals (with_reducible rfl)
              try simp only [Act.put, List.setIfInBounds_toArray, List.set_cons_zero, List.set_cons_succ]
              refine wpAnyH_done (by kernel_rfl) ?_ _
              go_wp2
              go_ret
              rw [HO.out]
              exact ⟨rfl, BW.out _ BN⟩
          · obtain rfl : k = l.length := by omega
            have HO : Hid (okUp l l.length = true) := hok
            have HB : Hid (Below w.heap.size w wr) := hbel
            clear hbel hok hrow
            go_wp2
            go_ret
            rw [HO.out]
            exact ⟨rfl, HB.out⟩
      · have HR : Hid (mayR need l = false) := by
          unfold Hid mayR fineB; rw [yes2 hn, decide_eq_false hln]; simp
        have hlt0 : decide ((l.length : Int) < need) = true := decide_eq_true (by omega)
        rw [HR.out]
        go_enter Tryd.func41, Tryd.ntmps41
        go_wp2_with fail
        refine (H0.from_impl 1 need 6 _).mono ?_
        rintro e w1 ⟨rfl, rfl⟩
        rw [yes2 hn]
        go_wp2
        go_ret
        exact ⟨rfl, Below.refl _ _⟩
    · have HR : Hid (mayR need l = false) := by
        unfold Hid mayR fineB; rw [no2 hn]; simp
      rw [HR.out]
      go_enter Tryd.func41, Tryd.ntmps41
      go_wp2_with fail
      refine (H0.from_impl 1 need 6 _).mono ?_
      rintro e w1 ⟨rfl, rfl⟩
      rw [no2 hn]
      go_wp2
      go_ret
      exact ⟨rfl, Below.refl _ _⟩
  · have HR : Hid (mayR need l = false) := by
      unfold Hid mayR; rw [decide_eq_false h4]; rfl
    have h4b : (400 : Int) < (l.length : Int) := by omega
    rw [HR.out]
    go_enter Tryd.func41, Tryd.ntmps41
    go_wp2
    go_ret
    exact ⟨rfl, Below.refl _ _⟩
end Go.Proofs.YtianmmonkllhpaaDoor.L2
