/-
  The laws' own source of drawn numbers: what its functions leave. Which numbers are drawn is not said: only in which bounds they lie.
-/
import Derived.Test.YteehgicnfageiaaDoorQB
import Derived.RegionTactic
import Derived.BigRegion
import Derived.BigQuiet
import Derived.Deep.QuietTactic
import Derived.OpenShut
import Derived.Handy
namespace Go.Proofs.YteehgicnfageiaaDoor.D0
open Go.RowKit
open Go.Proofs.YteehgicnfageiaaDoor.C0

/-- A slice of n bytes that lies below block B. -/
def IsCode (B : Nat) (w : World) (v : Value) (n : Nat) : Prop :=
  n ≤ 9223372036854775807 ∧ ∃ a cap, v = .slice a n cap ∧ (n = 0 ∨ ∃ b off, a = some ⟨b, off, none⟩ ∧ ∀ i, i < n → ∃ z : Nat, z < 256 ∧ b < B ∧ w.cell? ⟨b, off + i, none⟩ = some (.int .u8 z))
/-- The source, in block p: the bytes, how many of them were taken, the state of the drawing, the size. -/
def IsSrc (w : World) (p : Nat) (v : Value) (n : Nat) : Prop :=
  ∃ (at_ : Nat) (m : Int) (sz : Nat), w.heap[p]? = some (.cells #[v, .int .i64 at_, .int .u64 m, .int .i64 sz] 102 (0, 0)) ∧ at_ ≤ n ∧ 0 ≤ m ∧ m ≤ 18446744073709551615 ∧ sz ≤ 12
theorem cell_of_block {w : World} {p : Nat} {cs : Array Value} {T : TypeId} (h : w.heap[p]? = some (.cells cs T (0, 0))) (j : Nat) : w.cell? ⟨p, j, none⟩ = cs[j]? := by
  simp [World.cell?, h]
theorem frozen_of_block {w : World} {p : Nat} {cs : Array Value} {T : TypeId} (h : w.heap[p]? = some (.cells cs T (0, 0))) (j : Nat) : w.frozen? ⟨p, j, none⟩ = false := by
  simp [World.frozen?, h]

theorem set_same {w : World} {a : Addr} {u : Value} (h : w.cell? a = some u) (x : Value) : (w.setCell a x).cell? a = some x := World.cell?_setCell_same _ _ _ h
/-- One value that was stored into the source, whatever it is. -/
theorem IsSrc.mix {w : World} {p : Nat} {v : Value} {n : Nat} (h : IsSrc w p v n) (m : Int) (h0 : 0 ≤ m) (h9 : m ≤ 18446744073709551615) : IsSrc (w.setCell ⟨p, 2, none⟩ (.int .u64 m)) p v n := by
  obtain ⟨at_, m', sz, hb, hat, _, _, hsz⟩ := h
  refine ⟨at_, m, sz, ?_, hat, h0, h9, hsz⟩
  have := heap_setCell_same w p 2 _ _ (.int .u64 m) hb
  simpa using this
theorem IsSrc.drew {w : World} {p : Nat} {v : Value} {n : Nat} (h : IsSrc w p v n) : IsSrc w.drew p v n := h
theorem grown_set (w : World) (p j : Nat) (x : Value) : w.grownBy (w.setCell ⟨p, j, none⟩ x) (some p) :=
  ⟨rfl, rfl, rfl, by simp [World.setCell], fun k _ hk => Below.heap_setCell _ _ _ _ (fun e => hk (by simp [e]))⟩
theorem grown_trans {a b c : World} {p : Nat} (h : a.grownBy b (some p)) (k : b.grownBy c (some p)) : a.grownBy c (some p) :=
  ⟨k.os.trans h.os, k.tape.trans h.tape, k.output.trans h.output, Nat.le_trans h.size k.size, fun j hj hne => (k.block j (Nat.lt_of_lt_of_le hj h.size) hne).trans (h.block j hj hne)⟩
theorem grown_refl (a : World) (r : Option Nat) : a.grownBy a r := ⟨rfl, rfl, rfl, Nat.le_refl _, fun _ _ _ => rfl⟩
theorem grown_drew {a b : World} {r : Option Nat} (h : a.grownBy b r) : a.grownBy b.drew r := ⟨h.os, h.tape, h.output, h.size, h.block⟩
theorem xor_bounds (a b : Int) : 0 ≤ bits .xor .u64 a b ∧ bits .xor .u64 a b ≤ 18446744073709551615 := bounds_u64 (by simpa using wf_bits .xor .u64 a b)

theorem IsSrc.took {w : World} {p : Nat} {v : Value} {n : Nat} (h : IsSrc w p v n) (a : Nat) (ha : a ≤ n) : IsSrc (w.setCell ⟨p, 1, none⟩ (.int .i64 a)) p v n := by
  obtain ⟨at_, m', sz, hb, hat, h0, h9, hsz⟩ := h
  refine ⟨a, m', sz, ?_, ha, h0, h9, hsz⟩
  have := heap_setCell_same w p 1 _ _ (.int .i64 a) hb
  simpa using this
theorem n_post {w W : World} {p n : Nat} {v : Value} {most x : Int} (h1 : 1 < most) (h2 : most ≤ 9223372036854775807) (hs : IsSrc W p v n) (hg : w.grownBy W (some p)) :
    ∃ r : Nat, Ending.returned (.int .i64 (wrap64 ((IntKind.u64.wrap x).tmod most))) = .returned (.int .i64 r) ∧ (r : Int) < most ∧ IsSrc W p v n ∧ w.grownBy W (some p) := by
  have hx : 0 ≤ IntKind.u64.wrap x := by rw [IntKind.wrap_u64]; omega
  have e : (IntKind.u64.wrap x).tmod most = IntKind.u64.wrap x % most := Int.tmod_eq_emod_of_nonneg hx
  have h3 : 0 ≤ IntKind.u64.wrap x % most := Int.emod_nonneg _ (by omega)
  have h4 : IntKind.u64.wrap x % most < most := Int.emod_lt_of_pos _ (by omega)
  rw [e]
  generalize IntKind.u64.wrap x % most = y at *
  refine ⟨y.toNat, ?_, by omega, hs, hg⟩
  refine ret_int ?_
  unfold wrap64
  omega

set_option maxRecDepth 100000 in
set_option maxHeartbeats 1600000 in
theorem n_rest (p n len cap : Nat) (a : Option Addr) (most : Int) (w : World) (hv : IsSrc w p (.slice a len cap) n) (hn : ∀ at_ m sz, w.heap[p]? = some (.cells #[.slice a len cap, .int .i64 at_, .int .u64 m, .int .i64 sz] 102 (0, 0)) → (len : Int) ≤ at_) (hm1 : 1 < most) (hm2 : most ≤ 9223372036854775807) :
    Calls Tryd.prog 49 #[.pointer (some ⟨p, 0, none⟩), .int .i64 most] w fun e w' => ∃ r : Nat, e = .returned (.int .i64 r) ∧ (r : Int) < most ∧ IsSrc w' p (.slice a len cap) n ∧ w.grownBy w' (some p) := by
  have hv' := hv
  obtain ⟨at_, m, sz, hb, hat, hm0, hm9, hsz⟩ := hv
  have hge := hn _ _ _ hb
  have q0 : w.cell? ⟨p, 0, none⟩ = some (.slice a len cap) := cell_of_block hb 0
  have q1 : w.cell? ⟨p, 1, none⟩ = some (.int .i64 at_) := cell_of_block hb 1
  have q2 : w.cell? ⟨p, 2, none⟩ = some (.int .u64 m) := cell_of_block hb 2
  have qf := frozen_of_block hb
  have q2s : ∀ x y z : Value, (((w.setCell ⟨p, 2, none⟩ x).setCell ⟨p, 2, none⟩ y).setCell ⟨p, 2, none⟩ z).cell? ⟨p, 2, none⟩ = some z := fun x y z => set_same (set_same (set_same q2 x) y) z
  have HV : Hid (IsSrc w p (.slice a len cap) n) := hv'
  clear hn hv' hb
  go_enter Tryd.func49, Tryd.ntmps49
  go_wp2
  go_region
  go_wp2
  go_region
  go_wp2
  go_region
  go_wp2
  go_region
  go_wp2
  go_ret
  exact n_post hm1 hm2 ((((HV.out.mix _ (xor_bounds _ _).1 (xor_bounds _ _).2).mix _ (xor_bounds _ _).1 (xor_bounds _ _).2).mix _ (xor_bounds _ _).1 (xor_bounds _ _).2).drew.drew.drew.drew)
    (grown_drew (grown_drew (grown_drew (grown_drew (grown_trans (grown_trans (grown_set _ _ _ _) (grown_set _ _ _ _)) (grown_set _ _ _ _))))))

set_option maxRecDepth 100000 in
set_option maxHeartbeats 1600000 in
theorem n_take (p n b off cap at_ z : Nat) (m : Int) (sz : Nat) (most : Int) (w : World) (hb : w.heap[p]? = some (.cells #[.slice (some ⟨b, off, none⟩) n cap, .int .i64 at_, .int .u64 m, .int .i64 sz] 102 (0, 0)))
    (hv : IsSrc w p (.slice (some ⟨b, off, none⟩) n cap) n) (hn : n ≤ 9223372036854775807) (hlt : at_ < n) (hz : z < 256) (hcell : w.cell? ⟨b, off + at_, none⟩ = some (.int .u8 z)) (hm1 : 1 < most) (hm2 : most ≤ 9223372036854775807) :
    Calls Tryd.prog 49 #[.pointer (some ⟨p, 0, none⟩), .int .i64 most] w fun e w' => ∃ r : Nat, e = .returned (.int .i64 r) ∧ (r : Int) < most ∧ IsSrc w' p (.slice (some ⟨b, off, none⟩) n cap) n ∧ w.grownBy w' (some p) := by
  have q0 : w.cell? ⟨p, 0, none⟩ = some (.slice (some ⟨b, off, none⟩) n cap) := cell_of_block hb 0
  have q1 : w.cell? ⟨p, 1, none⟩ = some (.int .i64 at_) := cell_of_block hb 1
  have q2 : w.cell? ⟨p, 2, none⟩ = some (.int .u64 m) := cell_of_block hb 2
  have qf := frozen_of_block hb
  have hi : (at_ : Int) < (n : Int) := by omega
  have HV : Hid (IsSrc w p (.slice (some ⟨b, off, none⟩) n cap) n) := hv
  clear hv hb
  go_enter Tryd.func49, Tryd.ntmps49
  go_wp2
  go_region
  go_wp2
  go_region
  go_wp2
  have HS : Hid (IsSrc (w.setCell ⟨p, 1, none⟩ (.int .i64 ((at_ : Int) + 1))).drew.drew p (.slice (some ⟨b, off, none⟩) n cap) n) := (HV.out.took (at_ + 1) hlt).drew.drew
  have HG : Hid (w.grownBy (w.setCell ⟨p, 1, none⟩ (.int .i64 ((at_ : Int) + 1))).drew.drew (some p)) := grown_drew (grown_drew (grown_set _ _ _ _))
  have Q2 : (w.setCell ⟨p, 1, none⟩ (.int .i64 ((at_ : Int) + 1))).drew.drew.cell? ⟨p, 2, none⟩ = some (.int .u64 m) := (World.cell?_setCell_other _ _ _ _ (by simp)).trans q2
  have QF : ∀ j, (w.setCell ⟨p, 1, none⟩ (.int .i64 ((at_ : Int) + 1))).drew.drew.frozen? ⟨p, j, none⟩ = false := fun j => (World.frozen?_setCell _ _ _ _).trans (qf j)
  clear q0 q1 q2 qf hcell HV
  generalize (w.setCell ⟨p, 1, none⟩ (.int .i64 ((at_ : Int) + 1))).drew.drew = W at *
  have q2s : ∀ x y z : Value, (((W.setCell ⟨p, 2, none⟩ x).setCell ⟨p, 2, none⟩ y).setCell ⟨p, 2, none⟩ z).cell? ⟨p, 2, none⟩ = some z := fun x y z => set_same (set_same (set_same Q2 x) y) z
  go_region
  go_wp2
  go_region
  go_wp2
  go_region
  go_wp2
  go_ret
  exact n_post hm1 hm2 ((((HS.out.mix _ (xor_bounds _ _).1 (xor_bounds _ _).2).mix _ (xor_bounds _ _).1 (xor_bounds _ _).2).mix _ (xor_bounds _ _).1 (xor_bounds _ _).2).drew.drew.drew)
    (grown_trans HG.out (grown_drew (grown_drew (grown_drew (grown_trans (grown_trans (grown_set _ _ _ _) (grown_set _ _ _ _)) (grown_set _ _ _ _))))))

theorem IsCode.kept {B : Nat} {w w' : World} {v : Value} {n : Nat} (h : IsCode B w v n) (hc : ∀ k, k < B → w'.heap[k]? = w.heap[k]?) : IsCode B w' v n := by
  obtain ⟨hn, a, cap, rfl, h⟩ := h
  refine ⟨hn, a, cap, rfl, ?_⟩
  rcases h with h | ⟨b, off, rfl, hz⟩
  · exact .inl h
  · refine .inr ⟨b, off, rfl, fun i hi => ?_⟩
    obtain ⟨z, hz1, hb, hz2⟩ := hz i hi
    exact ⟨z, hz1, hb, (World.cell?_of_block (hc b hb)).trans hz2⟩
theorem IsCode.up {B C : Nat} {w : World} {v : Value} {n : Nat} (h : IsCode B w v n) (hBC : B ≤ C) : IsCode C w v n := by
  obtain ⟨hn, a, cap, rfl, h⟩ := h
  refine ⟨hn, a, cap, rfl, ?_⟩
  rcases h with h | ⟨b, off, rfl, hz⟩
  · exact .inl h
  · refine .inr ⟨b, off, rfl, fun i hi => ?_⟩
    obtain ⟨z, hz1, hb, hz2⟩ := hz i hi
    exact ⟨z, hz1, by omega, hz2⟩
theorem IsCode.grown {B p : Nat} {w w' : World} {v : Value} {n : Nat} (h : IsCode B w v n) (hg : w.grownBy w' (some p)) (hp : B ≤ p) (hB : B ≤ w.heap.size) : IsCode B w' v n :=
  h.kept fun k hk => hg.block k (Nat.lt_of_lt_of_le hk hB) (by simp; omega)
theorem IsCode.below {B : Nat} {w w' : World} {v : Value} {n : Nat} (h : IsCode B w v n) {C : Nat} (hb : Below C w w') (hC : B ≤ C) : IsCode B w' v n :=
  h.kept fun k hk => hb.block k (Nat.lt_of_lt_of_le hk hC)

set_option maxRecDepth 100000 in
/-- A number below most is drawn; 0, if most is 1 or less. -/
theorem n_any (B p n : Nat) (v : Value) (most : Int) (w : World) (hv : IsSrc w p v n) (hc : IsCode B w v n) (l : -9223372036854775808 ≤ most) (u : most ≤ 9223372036854775807) :
    Calls Tryd.prog 49 #[.pointer (some ⟨p, 0, none⟩), .int .i64 most] w fun e w' => ∃ r : Nat, e = .returned (.int .i64 r) ∧ (r = 0 ∨ (r : Int) < most) ∧ IsSrc w' p v n ∧ w.grownBy w' (some p) := by
  by_cases h1 : most ≤ 1
  · go_enter Tryd.func49, Tryd.ntmps49
    go_wp2
    go_ret
    exact ⟨0, rfl, .inl rfl, hv, grown_refl _ _⟩
  · obtain ⟨hn, a, cap, rfl, hc⟩ := hc
    rcases hc with rfl | ⟨b, off, rfl, hz⟩
    · refine (n_rest p 0 0 cap a most w hv (fun at_ m sz hh => ?_) (by omega) u).mono ?_
      · obtain ⟨a', m', s', hb', ha', _⟩ := hv
        rw [hh] at hb'
        simp at hb'
        omega
      · rintro e w' ⟨r, he, hr, hs, hg⟩
        exact ⟨r, he, .inr hr, hs, hg⟩
    · have hv' := hv
      obtain ⟨a', m', s', hb', ha', hm0, hm9, hsz⟩ := hv
      by_cases hlt : a' < n
      · obtain ⟨z, hz1, _, hz2⟩ := hz a' hlt
        refine (n_take p n b off cap a' z m' s' most w hb' hv' hn hlt hz1 hz2 (by omega) u).mono ?_
        rintro e w' ⟨r, he, hr, hs, hg⟩
        exact ⟨r, he, .inr hr, hs, hg⟩
      · refine (n_rest p n n cap (some ⟨b, off, none⟩) most w hv' (fun at_ m sz hh => ?_) (by omega) u).mono ?_
        · rw [hh] at hb'
          simp at hb'
          omega
        · rintro e w' ⟨r, he, hr, hs, hg⟩
          exact ⟨r, he, .inr hr, hs, hg⟩
theorem IsSrc.kept {w w' : World} {p n : Nat} {v : Value} (h : IsSrc w p v n) (hk : w'.heap[p]? = w.heap[p]?) : IsSrc w' p v n := by
  obtain ⟨a, m, sz, hb, r⟩ := h
  exact ⟨a, m, sz, hk.trans hb, r⟩
theorem IsSrc.lt {w : World} {p n : Nat} {v : Value} (h : IsSrc w p v n) : p < w.heap.size := by
  obtain ⟨a, m, sz, hb, _⟩ := h
  exact (Array.getElem?_eq_some_iff.1 hb).1
theorem grown_below {B p : Nat} {w w' : World} (hg : w.grownBy w' (some p)) (hp : B ≤ p) (hB : B ≤ w.heap.size) : Below B w w' :=
  ⟨hg.os, hg.tape, hg.output, hg.size, fun k hk => hg.block k (Nat.lt_of_lt_of_le hk hB) (by simp; omega)⟩
end Go.Proofs.YteehgicnfageiaaDoor.D0
