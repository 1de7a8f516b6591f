/-
  The numbers of a block, as the program reckons them: an array of 64.
-/
import Derived.Test.YtkpjdmmgdmbmnabDoorK0
import Derived.Test.YtkpjdmmgdmbmnabDoorC9
import Derived.Deep.OwnRows
import Derived.Deep.QuietTactic
import Derived.BigQuiet
import Derived.BigRegion
import Derived.WalkSmall
namespace Go.Proofs.YtkpjdmmgdmbmnabDoor.K1
open Go.RowKit
open Go.Proofs.YtkpjdmmgdmbmnabDoor.C0

abbrev num (n : Nat) : Value := .int .u32 (n : Int)
def wCells (l : List UInt8) : Array Value := ((List.range 64).map fun i => num (Ms.wAt l i)).toArray

theorem or_part (p c : Nat) (hp : p < 16777216) (hc : c < 256) : bits .or .u32 ((p : Int) * 256) (c : Int) = ((p * 256 + c : Nat) : Int) := by
  have e : ((p : Int) * 256) = ((p * 256 : Nat) : Int) := by simp
  rw [e, u32_or_nat _ _ (by omega) (by omega), nat_join 8 _ _ (by omega) (by omega)]

/-- What holds at the head of a round that takes a number: the row's first k are there, the others are 0. -/
def Rel (l : List UInt8) (w0 : World) (i : Value) (w : World) : Prop :=
  ∃ (k : Nat) (f : Nat → Value), k ≤ 16 ∧ i = .int .i64 k ∧ w.rowIs (w0.heap.size + 1) 81 64 f ∧ (∀ j, j < k → f j = num (Ms.word l j)) ∧ (∀ j, k ≤ j → j < 64 → f j = num 0) ∧
    w.rowIs w0.heap.size 81 64 (fun _ => num 0) ∧ Below w0.heap.size w0 w
/-- Inside such a round: the first m bytes of number k. -/
def RelIn (l : List UInt8) (w0 : World) (k : Nat) (i : Value) (w : World) : Prop :=
  ∃ (m : Nat) (f : Nat → Value), m ≤ 4 ∧ i = .int .i64 m ∧ w.rowIs (w0.heap.size + 1) 81 64 f ∧ (∀ j, j < k → f j = num (Ms.word l j)) ∧ (∀ j, k < j → j < 64 → f j = num 0) ∧ f k = num (Ms.part l k m) ∧
    w.rowIs w0.heap.size 81 64 (fun _ => num 0) ∧ Below w0.heap.size w0 w

theorem zeros (w : World) (c : Array Value) (t : TypeId) (n : Nat) (hn : n = w.heap.size) (h : c = Array.replicate 64 (num 0)) : (w.alloc (.cells c t)).rowIs n t 64 (fun _ => num 0) := by
  subst h hn
  have := World.rowIs_alloc w (Array.replicate 64 (num 0)) t (fun _ => num 0) (by intro i hi; simp at hi; simp [hi])
  simpa using this

theorem row_is {l : List UInt8} {w : World} {g : Nat} {t : TypeId} {f : Nat → Value} (h : w.rowIs g t 64 f) (hf : ∀ j, j < 64 → f j = num (Ms.wAt l j)) : w.heap[g]? = some (.cells (wCells l) t (0, 0)) := by
  obtain ⟨c, hc, hn, hcell⟩ := h
  have e : c = wCells l := by
    apply Array.ext_getElem?
    intro i
    by_cases hi : i < 64
    · rw [hcell i hi, hf i hi]; simp [wCells, hi]
    · rw [Array.getElem?_eq_none (by omega), Array.getElem?_eq_none (by simp [wCells]; omega)]
  rw [hc, e]
theorem wCells_one (l : List UInt8) : (wCells l).all (·.oneCell') = true := by
  rw [Array.all_eq_true_iff_forall_mem]
  intro v hv
  simp [wCells] at hv
  obtain ⟨i, _, rfl⟩ := hv
  rfl

/-- One byte more. -/
theorem RelIn.step {l : List UInt8} {w0 w : World} {k m : Nat} {f : Nat → Value} (hm : m < 4) (hrow : w.rowIs (w0.heap.size + 1) 81 64 f) (hlo : ∀ j, j < k → f j = num (Ms.word l j)) (hhi : ∀ j, k < j → j < 64 → f j = num 0)
    (hz : w.rowIs w0.heap.size 81 64 (fun _ => num 0)) (hbel : Below w0.heap.size w0 w) :
    RelIn l w0 k (.int .i64 ((m + 1 : Nat) : Int)) (w.setCell ⟨w0.heap.size + 1, k, none⟩ (num (Ms.part l k m * 256 + Ms.byteAt l (4 * k + m)))) := by
  refine ⟨m + 1, _, by omega, rfl, hrow.set _ _, fun j hj => ?_, fun j hj hj2 => ?_, ?_, hz.setOther (by show w0.heap.size ≠ w0.heap.size + 1; omega) _, hbel.setCell (by show w0.heap.size ≤ w0.heap.size + 1; omega) _⟩
  · show (if j = k then _ else f j) = _
    rw [if_neg (by omega)]; exact hlo j hj
  · show (if j = k then _ else f j) = _
    rw [if_neg (by omega)]; exact hhi j hj hj2
  · show (if k = k then _ else f k) = _
    rw [if_pos rfl]; rfl

/-- The number is whole. -/
theorem Rel.next {l : List UInt8} {w0 w : World} {k : Nat} {f : Nat → Value} (hk : k < 16) (hrow : w.rowIs (w0.heap.size + 1) 81 64 f) (hlo : ∀ j, j < k → f j = num (Ms.word l j)) (hhi : ∀ j, k < j → j < 64 → f j = num 0)
    (hfk : f k = num (Ms.part l k 4)) (hz : w.rowIs w0.heap.size 81 64 (fun _ => num 0)) (hbel : Below w0.heap.size w0 w) : Rel l w0 (.int .i64 ((k : Int) + 1)) w := by
  refine ⟨k + 1, f, by omega, rfl, hrow, fun j hj => ?_, fun j h1 h2 => hhi j (by omega) h2, hz, hbel⟩
  rcases Nat.lt_or_ge j k with h | h
  · exact hlo j h
  · obtain rfl : j = k := by omega
    rw [hfk, Ms.part_four]

theorem back (n d e : Nat) (h : n + e < 64) (hd : d + e = 16) : IntKind.i64.wrap ((n : Int) + 16 - (d : Int)) = ((n + e : Nat) : Int) := by
  rw [IntKind.wrap_i64]; omega

/-- What holds at the head of a round that reckons a number from those before. -/
def Rel2 (l : List UInt8) (w0 : World) (i : Value) (w : World) : Prop :=
  ∃ (n : Nat) (f : Nat → Value), n ≤ 48 ∧ i = .int .i64 n ∧ w.rowIs (w0.heap.size + 1) 81 64 f ∧ (∀ j, j < n + 16 → f j = num (Ms.wAt l j)) ∧
    w.rowIs w0.heap.size 81 64 (fun _ => num 0) ∧ Below w0.heap.size w0 w
theorem Rel2.step {l : List UInt8} {w0 w : World} {n : Nat} {f : Nat → Value} (hn : n < 48) (hrow : w.rowIs (w0.heap.size + 1) 81 64 f) (hlo : ∀ j, j < n + 16 → f j = num (Ms.wAt l j))
    (hz : w.rowIs w0.heap.size 81 64 (fun _ => num 0)) (hbel : Below w0.heap.size w0 w) :
    Rel2 l w0 (.int .i64 ((n + 1 : Nat) : Int)) (w.setCell ⟨w0.heap.size + 1, n + 16, none⟩ (num (Ms.wAt l (n + 16)))) := by
  refine ⟨n + 1, _, by omega, rfl, hrow.set _ _, fun j hj => ?_, hz.setOther (by show w0.heap.size ≠ w0.heap.size + 1; omega) _, hbel.setCell (by show w0.heap.size ≤ w0.heap.size + 1; omega) _⟩
  show (if j = n + 16 then _ else f j) = _
  by_cases h : j = n + 16
  · rw [if_pos h, h]
  · rw [if_neg h]; exact hlo j (by omega)

set_option maxRecDepth 100000 in
set_option maxHeartbeats 800000 in
theorem nums_impl (b off cap : Nat) (l : List UInt8) (w : World) (hb : b < w.heap.size) (hcap : 64 ≤ cap) (hcm : cap ≤ maxLen) 
    (hc : ∀ j, j < 64 → w.cell? ⟨b, off + j, none⟩ = some (.int .u8 (Ms.byteAt l j : Nat))) :
    Calls Tryd.prog 60 #[.slice (some ⟨b, off, none⟩) 64 cap] w fun e w' => e = .returned (.agg (wCells l)) ∧ Below w.heap.size w w' := by
  unfold maxLen at hcm
  go_enter Tryd.func60, Tryd.ntmps60
  go_wp2_with fail
  go_loopw [11] (fun i wr => Rel l w i wr) (fun i _ => 16 - (intOf i).toNat)
  case atStart =>
    refine ⟨0, fun _ => num 0, by omega, rfl, ?_, fun j hj => by omega, fun _ _ _ => rfl, ?_, ?_⟩
    · exact zeros _ _ _ _ (by simp) rfl
    · exact (zeros w _ _ _ rfl rfl).alloc _
    · exact ((Below.refl _ _).alloc (Nat.le_refl _) _).alloc (by simp) _
  case round =>
    obtain ⟨k, f, hk, rfl, hrow, hlo, hhi, hz, hbel⟩ := hrel
    by_cases hlt : k < 16
    · have h4 : (k + 1) * 4 - k * 4 = 4 := by omega
      go_wp2_with fail
      clear h4
      go_loopw [22] (fun i wr => RelIn l w k i wr) (fun i _ => 4 - (intOf i).toNat)
      case atStart => exact ⟨0, f, by omega, rfl, hrow, hlo, fun j h1 h2 => hhi j (by omega) h2, hhi k (Nat.le_refl _) (by omega), hz, hbel⟩
      case round =>
        clear hrow hlo hhi hz hbel
        obtain ⟨m, f, hm, rfl, hrow, hlo, hhi, hfk, hz, hbel⟩ := hrel
        by_cases hl4 : m < 4
        · have hcb : wr.cell? ⟨b, off + k * 4 + m, none⟩ = some (.int .u8 (Ms.byteAt l (4 * k + m) : Nat)) := by
            rw [hbel.cell (by exact hb), show off + k * 4 + m = off + (4 * k + m) by omega]; exact hc _ (by omega)
          have hcw : wr.cell? ⟨w.heap.size + 1, k, none⟩ = some (num (Ms.part l k m)) := by rw [← hfk]; exact hrow.cell (by omega)
          have hfr := hrow.frozen k
          have HN : Hid (RelIn l w k (.int .i64 ((m + 1 : Nat) : Int)) (wr.setCell ⟨w.heap.size + 1, k, none⟩ (num (Ms.part l k m * 256 + Ms.byteAt l (4 * k + m))))) := RelIn.step hl4 hrow hlo hhi hz hbel
          have hp : Ms.part l k m < 16777216 := Nat.lt_of_lt_of_le (Ms.part_lt l k m) (Nat.pow_le_pow_right (n := 256) (by omega) (show m ≤ 3 by omega))
          have hbl := Ms.byteAt_lt l (4 * k + m)
          have hor := or_part _ _ hp hbl
          clear hrow hlo hhi hz hbel hfk
          go_wp2
          go_roundw
          case rel => exact HN.out
          case measure => simp [intOf]; omega
        · obtain rfl : m = 4 := by omega
          go_wp2
          go_roundw
          case rel => exact Rel.next hlt hrow hlo hhi hfk hz hbel
          case measure => simp [intOf]; omega
    · obtain rfl : k = 16 := by omega
      have HR : Hid (Rel2 l w (.int .i64 0) wr) := ⟨0, f, by omega, rfl, hrow, fun j hj => by rw [hlo j (by omega), Ms.wAt_low l j (by omega)], hz, hbel⟩
      clear hrow hlo hhi hz hbel
      go_wp2_with fail
      go_loopw [37] (fun i wr => Rel2 l w i wr) (fun i _ => 48 - (intOf i).toNat)
      case atStart => exact HR.out
      case round =>
        clear HR
        obtain ⟨n, f, hn, rfl, hrow, hlo, hz, hbel⟩ := hrel
        by_cases hl : n < 48
        · have c0 : wr.cell? ⟨w.heap.size + 1, n, none⟩ = some (num (Ms.wAt l n)) := by rw [← hlo n (by omega)]; exact hrow.cell (by omega)
          have c1 : wr.cell? ⟨w.heap.size + 1, n + 1, none⟩ = some (num (Ms.wAt l (n + 1))) := by rw [← hlo (n + 1) (by omega)]; exact hrow.cell (by omega)
          have c9 : wr.cell? ⟨w.heap.size + 1, n + 9, none⟩ = some (num (Ms.wAt l (n + 9))) := by rw [← hlo (n + 9) (by omega)]; exact hrow.cell (by omega)
          have c14 : wr.cell? ⟨w.heap.size + 1, n + 14, none⟩ = some (num (Ms.wAt l (n + 14))) := by rw [← hlo (n + 14) (by omega)]; exact hrow.cell (by omega)
          obtain ⟨o16, c16⟩ : ∃ o, wr.cell? ⟨w.heap.size + 1, n + 16, none⟩ = some o := ⟨_, hrow.cell (by omega)⟩
          have hfr := hrow.frozen (n + 16)
          have HN : Hid (∀ m, Rel2 l w (.int .i64 ((n + 1 : Nat) : Int)) ((wr.drewN m).setCell ⟨w.heap.size + 1, n + 16, none⟩ (num (Ms.wAt l (n + 16))))) :=
            fun m => Rel2.step (w := wr.drewN m) hl hrow hlo hz (below_drewN hbel m)
          have HW : Hid (Ms.wAt l (n + 16) = Ms.add (Ms.add (Ms.add (Ms.wAt l n) (Ms.low0 (Ms.wAt l (n + 1)))) (Ms.wAt l (n + 9))) (Ms.low1 (Ms.wAt l (n + 14)))) := Ms.wAt_high l n
          have b0 := Ms.wAt_lt l n
          have b1 := Ms.wAt_lt l (n + 1)
          have b9 := Ms.wAt_lt l (n + 9)
          have b14 := Ms.wAt_lt l (n + 14)
          generalize Ms.wAt l n = x0 at *
          generalize Ms.wAt l (n + 1) = x1 at *
          generalize Ms.wAt l (n + 9) = x9 at *
          generalize Ms.wAt l (n + 14) = x14 at *
          clear hrow hlo hz hbel
          have q15 : IntKind.i64.wrap ((n : Int) + 16 - 15) = ((n + 1 : Nat) : Int) := back n 15 1 (by omega) rfl
          have q2 : IntKind.i64.wrap ((n : Int) + 16 - 2) = ((n + 14 : Nat) : Int) := back n 2 14 (by omega) rfl
          have q7 : IntKind.i64.wrap ((n : Int) + 16 - 7) = ((n + 9 : Nat) : Int) := back n 7 9 (by omega) rfl
          have q16 : IntKind.i64.wrap ((n : Int) + 16 - 16) = ((n + 0 : Nat) : Int) := back n 16 0 (by omega) rfl
          have i1 : (n : Int) + 1 < 64 := by omega
          have j1 : 0 ≤ (n : Int) + 1 := by omega
          have t1 : ((n : Int) + 1).toNat = n + 1 := by omega
          have i14 : (n : Int) + 14 < 64 := by omega
          have j14 : 0 ≤ (n : Int) + 14 := by omega
          have t14 : ((n : Int) + 14).toNat = n + 14 := by omega
          go_wp2_with fail
          go_quiet (first | (go_at_call 61; exact K0.turn_quiet _ _ _ _ b1 (by decide) (by decide)))
          go_wp2_with fail
          rw [K0.low0_eq x1 b1]
          obtain ⟨w1, hw1⟩ : ∃ x, wr.drewN nq = x := ⟨_, rfl⟩
          have d0 : w1.cell? ⟨w.heap.size + 1, n, none⟩ = some (num x0) := by rw [← hw1]; exact c0
          have d9 : w1.cell? ⟨w.heap.size + 1, n + 9, none⟩ = some (num x9) := by rw [← hw1]; exact c9
          have d14 : w1.cell? ⟨w.heap.size + 1, n + 14, none⟩ = some (num x14) := by rw [← hw1]; exact c14
          have d16 : w1.cell? ⟨w.heap.size + 1, n + 16, none⟩ = some o16 := by rw [← hw1]; exact c16
          have dfr : w1.frozen? ⟨w.heap.size + 1, n + 16, none⟩ = false := by rw [← hw1]; exact hfr
          have HN1 : Hid (∀ m, Rel2 l w (.int .i64 ((n + 1 : Nat) : Int)) ((w1.drewN m).setCell ⟨w.heap.size + 1, n + 16, none⟩ (num (Ms.wAt l (n + 16))))) := by
            intro m; rw [← hw1, World.drewN_drewN]; exact HN.out _
          rw [hw1]
          clear hw1 c0 c1 c9 c14 c16 hfr HN
          go_quiet (first | (go_at_call 61; exact K0.turn_quiet _ _ _ _ b14 (by decide) (by decide)))
          go_wp2_with fail
          rw [K0.low1_eq x14 b14]
          generalize Ms.low0 x1 = s0 at *
          generalize Ms.low1 x14 = s1 at *
          have i0 : (n : Int) < 64 := by omega
          have i9 : (n : Int) + 9 < 64 := by omega
          have j9 : 0 ≤ (n : Int) + 9 := by omega
          have t9 : ((n : Int) + 9).toNat = n + 9 := by omega
          have i16 : (n : Int) + 16 < 64 := by omega
          have j16 : 0 ≤ (n : Int) + 16 := by omega
          have t16 : ((n : Int) + 16).toNat = n + 16 := by omega
          have a1 := K0.add_wrap x0 s0
          have a2 := K0.add_wrap (Ms.add x0 s0) x9
          have a3 := K0.add_wrap (Ms.add (Ms.add x0 s0) x9) s1
          have a1' := K0.add_mod x0 s0
          have a2' := K0.add_mod (Ms.add x0 s0) x9
          have a3' := K0.add_mod (Ms.add (Ms.add x0 s0) x9) s1
          go_region
          go_wp2
          go_roundw
          case rel =>
            have h := HN1.out (nq + 1)
            rw [HW.out] at h
            exact h
          case measure => simp [intOf]; omega
        · obtain rfl : n = 48 := by omega
          have hW : wr.heap[w.heap.size + 1]? = some (.cells (wCells l) 81 (0, 0)) := row_is hrow (fun j hj => hlo j hj)
          obtain ⟨old, hO, hOs, _⟩ := hz
          have hsz : (wCells l).size = 64 := by simp [wCells]
          have hinfo : (Tryd.prog.info? 81).map (·.size) = some (wCells l).size := by rw [hsz]; kernel_rfl
          have hld := C9.load_row (P := Tryd.prog) wr (w.heap.size + 1) 81 _ (wCells l) _ 64 _ hW Tryd.underlying81 hinfo
          have hst := C9.store_row (P := Tryd.prog) wr w.heap.size 81 _ old (wCells l) hO hinfo (by rw [hsz, hOs]) (wCells_one l)
          have HR : Hid ((wr.setRow w.heap.size (wCells l)).heap[w.heap.size]? = some (.cells (wCells l) 81 (0, 0))) := setRow_heap wr _ _ _ _ _ hO
          have HB : Hid (Below w.heap.size w (wr.setRow w.heap.size (wCells l))) := below_setRow hbel (Nat.le_refl _) _
          clear hrow hlo hbel hW hO hOs hsz
          go_wp2_with (first
            | (refine C9.wpList_load_whole rfl 81 _ rfl _ rfl _ hld ?_)
            | (refine C9.wpList_store_whole rfl rfl 81 _ _ rfl _ rfl _ rfl _ hst ?_))
          exact bodyPost_ret (v := .agg (wCells l)) (C9.results_row rfl _ _ w.heap.size _ (wCells l) _ 64 _ rfl HR.out Tryd.underlying81 hinfo) rfl ⟨rfl, HB.out⟩
end Go.Proofs.YtkpjdmmgdmbmnabDoor.K1
