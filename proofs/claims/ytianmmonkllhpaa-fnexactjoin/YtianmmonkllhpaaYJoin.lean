/-
  The walk of the exact law on Join.
-/
import Derived.Test.YtianmmonkllhpaaL4
namespace Go.Proofs.Ytianmmonkllhpaa.YJoin
open Go.RowKit
open Go.Proofs.Ytianmmonkllhpaa.C0 Go.Proofs.Ytianmmonkllhpaa.HB Go.Proofs.Ytianmmonkllhpaa.SH Go.Proofs.Ytianmmonkllhpaa.SI
theorem own_cap {B : Nat} {w : World} {a : Option Addr} {n cap : Nat} {l : List Sh} (h : OShares B w (.slice a n cap) l) : l.length ≤ cap := by
  rcases h.2 with ⟨h1, h0⟩ | ⟨g, c, cur, h1, _, _, hnc, _⟩
  · simp only [Value.slice.injEq] at h1; omega
  · simp only [Value.slice.injEq] at h1; omega
set_option maxRecDepth 100000 in
set_option maxHeartbeats 1600000 in
theorem walk (need : Int) (v : Value) (l : List Sh) (w : World) (_ : -9223372036854775808 ≤ need ∧ need ≤ 9223372036854775807) (hl : Shares w v l) (hz : ∀ q ∈ l, q.2.size ≤ maxLen) :
    Calls Try.prog 6 #[.int .i64 need, v] w fun e w' => e = .returned (.bool true) ∧ Below w.heap.size w w' := by
  go_enter Try.func6, Try.ntmps6
  go_wp2_with fail
  refine (szShares_any _ l 1048576 _ hl hz (by omega) (by omega)).mono ?_
  rintro e w1 ⟨r, rfl, hr, hb1⟩
  unfold okP at hr
  by_cases h0 : r < 0
  · go_wp2
    go_ret
    exact ⟨rfl, hb1⟩
  · have hlen : l.length ≤ 1048576 := by omega
    clear hr
    go_wp2_with fail
    refine (toShares_any _ l _ (hl.below hb1) hlen).mono ?_
    rintro e w2 ⟨a2, c2, rfl, ho2, hb2⟩
    have b2 := bel2 hb1 hb2
    go_wp2_with fail
    refine (J5.join_any need _ l _ ho2.shares hz).mono ?_
    rintro e w3 ⟨rfl, hb3⟩
    have b3 := bel2 b2 hb3
    go_wp2_with fail
    refine (toShares_any _ l _ (hl.below b3) hlen).mono ?_
    rintro e w4 ⟨a4, c4, rfl, ho4, hb4⟩
    have b4 := bel2 b3 hb4
    go_wp2_with fail
    refine (L4.join_impl need _ _ l _ ho4.shares (own_cap ho4) hz).mono ?_
    rintro e w5 ⟨rfl, hb5⟩
    have b5 := bel2 b4 hb5
    have HS5 : Hid (Shares w5 (.slice a4 l.length c4) l) := (ho4.shares.below hb5)
    have HL : Hid (∀ W, Below w.heap.size w W → Calls Try.prog 17 #[v] W fun e w' => ∃ a cap, e = .returned (.slice a l.length cap) ∧ OShares W.heap.size w' (.slice a l.length cap) l ∧ Below W.heap.size W w') := fun W hW => toShares_any _ l _ (hl.below hW) hlen
    have HB5 : Hid (Below w.heap.size w w5) := b5
    clear ho2 ho4 hb1 hb2 hb3 hb4 hb5 b2 b3 b4 b5
    go_wp2_with fail
    refine (HL.out _ HB5.out).mono ?_
    rintro e w6 ⟨a6, c6, rfl, ho6, hb6⟩
    have b6 := bel2 HB5.out hb6
    go_wp2_with fail
    refine (eqShares_any _ _ l _ (HS5.out.below hb6) ho6.shares).mono ?_
    rintro e w7 ⟨rfl, hb7⟩
    have HB : Hid (Below w.heap.size w w7) := bel2 b6 hb7
    clear ho6 hb6 hb7 b6
    go_wp2
    go_ret
    exact ⟨rfl, HB.out⟩
end Go.Proofs.Ytianmmonkllhpaa.YJoin
