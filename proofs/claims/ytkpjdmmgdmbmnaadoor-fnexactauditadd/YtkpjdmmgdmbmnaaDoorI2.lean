/-
  The program's iterator over lines, each with its link.
-/
import Derived.Test.YtkpjdmmgdmbmnaaDoorI1
import Derived.Test.YtkpjdmmgdmbmnaaDoorA3
import Derived.Test.YtkpjdmmgdmbmnaaDoorQC
import Derived.RangeFuncNested
import Derived.RangeFuncBound
import Derived.RangeFuncCalls
import Derived.RangeFuncLeaves
import Derived.Shelf.Abstract
import Derived.Shelf.RegionOpen
import Derived.WalkKit
import Derived.OwnWalkIn
import Derived.TacticsInMore
import Derived.LoopNIn
import Derived.LoopIn
namespace Go.Proofs.YtkpjdmmgdmbmnaaDoor.I2
open Go.RowKit
open Go.Proofs.YtkpjdmmgdmbmnaaDoor.C0 Go.Proofs.YtkpjdmmgdmbmnaaDoor.HB
open Go.Proofs.YtkpjdmmgdmbmnaaDoor.A0 Go.Proofs.YtkpjdmmgdmbmnaaDoor.A1 Go.Proofs.YtkpjdmmgdmbmnaaDoor.A2 Go.Proofs.YtkpjdmmgdmbmnaaDoor.A3 Go.Proofs.YtkpjdmmgdmbmnaaDoor.A4 Go.Proofs.YtkpjdmmgdmbmnaaDoor.I1
open Go.Proofs.YtkpjdmmgdmbmnaaDoor.K3 (bytesOf)
attribute [local go_sem] Oper.semAt_some
def digB (s : ByteArray) : ByteArray := ⟨(Ms.digest (bytesOf s)).toArray⟩
theorem digB_size (s : ByteArray) : (digB s).size = 32 := by unfold digB; rw [C3.size_mk, Ms.digest_length]
def linkN (ls : List Ln) : Nat → ByteArray
  | 0 => digB (boxT ++ textR (lAt ls 0))
  | k + 1 => digB (linkN ls k ++ textR (lAt ls (k + 1)))
def prevN (ls : List Ln) (k : Nat) : ByteArray := if k = 0 then boxT else linkN ls (k - 1)
theorem link_prev (ls : List Ln) (k : Nat) : linkN ls k = digB (prevN ls k ++ textR (lAt ls k)) := by
  cases k with
  | zero => rfl
  | succ k => rfl
theorem prev_succ (ls : List Ln) (k : Nat) : prevN ls (k + 1) = linkN ls k := rfl
theorem link_size (ls : List Ln) (k : Nat) : (linkN ls k).size = 32 := by rw [link_prev]; exact digB_size _
theorem prev_size (ls : List Ln) (k : Nat) : (prevN ls k).size ≤ 32 := by
  unfold prevN
  split
  · decide
  · rw [link_size]; omega
theorem textR_size (x : Ln) : (textR x).size ≤ 200 := by
  unfold textR
  split
  · rename_i h; exact (line_small h).2
  · exact Nat.zero_le _
def encs (ls : List Ln) (vcs : Nat → Value) (k : Nat) : Array Value := #[lnV (lAt ls k) (vcs k), .string (linkN ls k)]
theorem abide {β : Type} {B : Nat} {J : β → World → Prop} (hJ : AbidesFrom B J) {s : β} {W W' : World} (hs : J s W) (hb : Below W.heap.size W W') : J s W' :=
  hJ s W W' none hs ⟨hb.os, hb.tape, hb.output, hb.size, fun k h _ => hb.block k h⟩ (fun r e => by cases e)
theorem own2 (w : World) (a b : ByteArray) : OT w.heap.size (w.alloc (.cells #[.string a, .string b] 9)) (.slice (some ⟨w.heap.size, 0, none⟩) 2 2) [a, b] :=
  ⟨rfl, .inr ⟨w.heap.size, 2, _, rfl, Nat.le_refl _, heap_alloc_new _ _, Nat.le_refl _, by unfold maxLen; omega, rfl, rfl⟩⟩
theorem cat2 (a b : ByteArray) : (⟨(C2.cat [a, b]).toArray⟩ : ByteArray) = a ++ b := by
  apply ByteArray.ext
  simp [C2.cat]
theorem join2 (a b : ByteArray) (w : World) (h : a.size + b.size ≤ 1000000) :
    Calls Tryd.prog 50 #[.slice (some ⟨w.heap.size, 0, none⟩) 2 2] (w.alloc (.cells #[.string a, .string b] 9)) fun e w' => e = .returned (.string (a ++ b)) ∧ Below w.heap.size w w' := by
  have ho := own2 w a b
  refine (C2.joined_any w.heap.size 0 2 2 [a, b] _ rfl (by simp) (by omega) (by simp only [C2.total]; omega) (fun j hj => ho.cells.2 j hj)).mono ?_
  rintro x w' ⟨rfl, hb⟩
  exact ⟨by rw [cat2], bel2 (albel _ _) hb⟩
/-- The lines that a slice reads as, each where it lies. -/
structure Lies (w0 : World) (a : Option Addr) (ls : List Ln) (vcs : Nat → Value) : Prop where
  fine : ∀ k, LnW (lAt ls k)
  cards : ∀ k, IRow w0 (vcs k) (lAt ls k).cards
  cells : 0 < ls.length → ∃ b off, a = some ⟨b, off, none⟩ ∧ b < w0.heap.size ∧ ∀ k, k < ls.length → w0.cell? ⟨b, off + k * 4, none⟩ = some (.int .i64 (lAt ls k).kind) ∧
    w0.cell? ⟨b, off + k * 4 + 1, none⟩ = some (.string (lAt ls k).name) ∧ w0.cell? ⟨b, off + k * 4 + 2, none⟩ = some (.string (lAt ls k).sum) ∧ w0.cell? ⟨b, off + k * 4 + 3, none⟩ = some (vcs k)
  len : ls.length ≤ maxLen
set_option maxRecDepth 100000 in
set_option maxHeartbeats 3200000 in
theorem linked_stops (n : Nat) (hn : 1 ≤ n) (w0 w : World) (Bx cap : Nat) (a : Option Addr) (ls : List Ln) (vcs : Nat → Value)
    (hL : K2.Laid w0) (hw : Below w0.heap.size w0 w) (hBx : Bx < w.heap.size) (hc : w.cell? ⟨Bx, 0, none⟩ = some (.slice a ls.length cap)) (hl : Lies w0 a ls vcs) :
    SeqStopsK Fence.wide n Tryd.prog 91 #[.pointer (some ⟨Bx, 0, none⟩)] (encs ls vcs) (Below w0.heap.size) (fun xs => xs = List.range ls.length) (fun pre => ∃ k, k ≤ ls.length ∧ pre = List.range k) ls.length w := fun l J Jx W hW hJ hJx hY h0 => by
  have hc' : W.cell? ⟨Bx, 0, none⟩ = some (.slice a ls.length cap) := (hW.cell (p := ⟨Bx, 0, none⟩) hBx).trans hc
  have HW0 : Hid (Below w0.heap.size w0 W) := hw.trans (hW.mono hw.size)
  have hlen := hl.len
  unfold maxLen at hlen
  refine callsIn_of_wp Tryd.func91 rfl trivial ?_ rfl
  simp only [Tryd.ntmps91, List.size_toArray, List.length_cons, List.length_nil, Nat.reduceAdd, Nat.reduceSub, Array.replicate_succ, Array.replicate_zero, List.push_toArray, List.append_toArray, List.nil_append, List.cons_append]
  gi_wp2
  gi_loopw [3, 8] (fun s i wr => ∃ k : Nat, k ≤ ls.length ∧ s = .string (prevN ls k) ∧ i = .int .i64 k ∧ J (List.range k) wr ∧ Below w0.heap.size w0 wr)
    (fun _ i _ => ls.length - (intOf i).toNat)
  case atStart => exact ⟨0, Nat.zero_le _, rfl, rfl, h0, HW0.out⟩
  case round =>
    clear h0 HW0 hc'
    obtain ⟨k, hk, rfl, rfl, hJs, hbel⟩ := hrel
    by_cases hlt : k < ls.length
    · have hlt' : (k : Int) < (ls.length : Int) := by omega
      obtain ⟨b, off, rfl, hb, hcc⟩ := hl.cells (by omega)
      obtain ⟨p0, p1, p2, p3⟩ := hcc k hlt
      have c0 := (hbel.cell (p := ⟨b, off + k * 4, none⟩) hb).trans p0
      have c1 := (hbel.cell (p := ⟨b, off + k * 4 + 1, none⟩) hb).trans p1
      have c2 := (hbel.cell (p := ⟨b, off + k * 4 + 2, none⟩) hb).trans p2
      have c3 := (hbel.cell (p := ⟨b, off + k * 4 + 3, none⟩) hb).trans p3
      clear p0 p1 p2 p3 hcc
      have hxk := hl.fine k
      have hck := hl.cards k
      obtain ⟨av, cv, hve, _, _⟩ := hl.cards k
      have HYK := hY (List.range k) k
      unfold encs at HYK
      rw [hve] at c3 hck HYK
      have HPS := prev_size ls k
      have HTS := textR_size (lAt ls k)
      have HLK := link_prev ls k
      have HNX : Hid (prevN ls (k + 1) = linkN ls k) := rfl
      unfold lnV at HYK
      obtain ⟨xk, hxke⟩ : ∃ x, lAt ls k = x := ⟨_, rfl⟩
      rw [hxke] at c0 c1 c2 c3 hxk hck HYK HTS HLK
      obtain ⟨pk, hpk⟩ : ∃ x, prevN ls k = x := ⟨_, rfl⟩
      rw [hpk] at HPS HLK ⊢
      obtain ⟨lk, hlk⟩ : ∃ x, linkN ls k = x := ⟨_, rfl⟩
      rw [hlk] at HLK HYK HNX
      clear hxke hpk hlk hve
      obtain ⟨kind, name, sum, cs⟩ := xk
      have HT : Hid (∀ W, Below w0.heap.size w0 W → Calls Tryd.prog 16 #[.agg #[.int .i64 kind, .string name, .string sum, .slice av cs.length cv]] W fun e w' => e = .returned (.string (textR ⟨kind, name, sum, cs⟩)) ∧ Below W.heap.size W w') := fun W hW => I1.text_impl ⟨kind, name, sum, cs⟩ (.slice av cs.length cv) W (hck.below hW) hxk
      dsimp only at c0 c1 c2 c3 HYK
      generalize textR ⟨kind, name, sum, cs⟩ = tk at *
      have HD : Hid (∀ W, Below w0.heap.size w0 W → Calls Tryd.prog 52 #[.string (pk ++ tk)] W fun e w' => e = .returned (.string lk) ∧ Below W.heap.size W w') := fun W hW => by
        have hz : (pk ++ tk).size ≤ 8000 := by rw [ByteArray.size_append]; omega
        have h := KD.digest_impl (pk ++ tk) W (by unfold maxLen; omega) (hL.below hW)
        rw [show KD.digestB (pk ++ tk) = Ms.digest (bytesOf (pk ++ tk)) by unfold KD.digestB; rw [if_neg (by omega)]] at h
        rw [HLK]; exact h
      have HJ2 : Hid (∀ W : World, Calls Tryd.prog 50 #[.slice (some ⟨W.heap.size, 0, none⟩) 2 2] (W.alloc (.cells #[.string pk, .string tk] 9)) fun e w' => e = .returned (.string (pk ++ tk)) ∧ Below W.heap.size W w') := fun W => join2 pk tk W (by omega)
      clear HLK HPS HTS hxk hck hb
      have HA : Hid _ := albel wr (.cells #[.int .i64 kind, .string name, .string sum, .slice av cs.length cv] 29)
      have KX : Hid _ := heap_alloc_new wr (.cells #[.int .i64 kind, .string name, .string sum, .slice av cs.length cv] 29)
      have hrs : (List.range k).length < ls.length := by simp; omega
      have HB1 : Hid (Below w0.heap.size w0 (wr.alloc (.cells #[.int .i64 kind, .string name, .string sum, .slice av cs.length cv] 29))) := bel2 hbel HA.out
      have HJ1 : Hid (J (List.range k) (wr.alloc (.cells #[.int .i64 kind, .string name, .string sum, .slice av cs.length cv] 29))) := abide hJ hJs HA.out
      gi_wp2_with fail
      refine ⟨trivial, (callsIn_wide.2 (HT.out _ HB1.out)).mono ?_⟩
      rintro e w2 ⟨rfl, hb2⟩
      have HB2 : Hid (Below w0.heap.size w0 w2) := bel2 HB1.out hb2
      have HJ2' : Hid (J (List.range k) w2) := abide hJ HJ1.out hb2
      have KX2 : Hid _ := carry KX.out hb2
      clear HT hb2 c0 c1 c2 c3 HA HB1 HJ1 KX hbel hJs
      gi_wp2_with fail
      refine ⟨trivial, (callsIn_wide.2 (HJ2.out w2)).mono ?_⟩
      rintro e w3 ⟨rfl, hb3⟩
      have HB3 : Hid (Below w0.heap.size w0 w3) := bel2 HB2.out hb3
      have HJ3 : Hid (J (List.range k) w3) := abide hJ HJ2'.out hb3
      have KX3 : Hid _ := carry KX2.out hb3
      clear HJ2 hb3 HB2 HJ2' KX2
      gi_wp2_with fail
      refine ⟨trivial, (callsIn_wide.2 (HD.out w3 HB3.out)).mono ?_⟩
      rintro e w4 ⟨rfl, hb4⟩
      have HB4 : Hid (Below w0.heap.size w0 w4) := bel2 HB3.out hb4
      have HJ4 : Hid (J (List.range k) w4) := abide hJ HJ3.out hb4
      obtain ⟨d0, d1, d2, d3, df⟩ := blk4f (carry KX3.out hb4)
      clear HD hb4 HB3 HJ3 KX3
      obtain ⟨fn, tmps, assign, body, hy, hR⟩ := HYK w4 HJ4.out hrs
      clear HYK HJ4 hY hrs
      gi_wp2
      refine hR.mono ?_
      rintro e W3 (⟨rfl, hJ5, hk5⟩ | ⟨rfl, hJx5⟩)
      · have HB5 : Hid (Below w0.heap.size w0 W3) := HB4.out.trans hk5
        have HJ5 : Hid (J (List.range (k + 1)) W3) := by unfold Hid; rw [List.range_succ]; exact hJ5
        clear hJ5 hk5 HB4
        gi_wp2
        go_roundw
        case rel => exact ⟨k + 1, by omega, by rw [HNX.out], by go_num, HJ5.out, HB5.out⟩
        case measure => simp [intOf]; omega
      · have HJ5 : Hid (Jx (List.range (k + 1)) W3) := by unfold Hid; rw [List.range_succ]; exact hJx5
        clear hJx5 HB4
        gi_wp2
        refine bodyPost_ret (results_none rfl _ _ _) rfl ?_
        exact ⟨⟨_, rfl⟩, .inr ⟨_, ⟨k + 1, by omega, rfl⟩, HJ5.out⟩⟩
    · obtain rfl : k = ls.length := by omega
      gi_wp2
      go_end0
      exact ⟨⟨_, rfl⟩, .inl ⟨_, rfl, hJs⟩⟩
end Go.Proofs.YtkpjdmmgdmbmnaaDoor.I2
