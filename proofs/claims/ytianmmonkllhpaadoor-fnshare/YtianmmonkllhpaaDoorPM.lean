/-
  D0 D1 D2 DS: parts of the proof, one behind the other.
-/
import Derived.Test.YtianmmonkllhpaaDoorC0
import Derived.RegionTactic
import Derived.BigRegion
import Derived.BigQuiet
import Derived.Deep.QuietTactic
import Derived.OpenShut
import Derived.Handy
import Derived.Laws.OwnMore
import Derived.Test.YtianmmonkllhpaaDoorHB
/-
  The laws' own source of drawn numbers: what its functions leave. Which numbers are drawn is not said: only in which bounds they lie.
-/
namespace Go.Proofs.YtianmmonkllhpaaDoor.D0
open Go.RowKit
open Go.Proofs.YtianmmonkllhpaaDoor.C0

/-- A slice of n bytes that lies below block B. -/
def IsCode (B : Nat) (w : World) (v : Value) (n : Nat) : Prop :=
  n ≤ 9223372036854775807 ∧ ∃ a cap, v = .slice a n cap ∧ (n = 0 ∨ ∃ b off, a = some ⟨b, off, none⟩ ∧ ∀ i, i < n → ∃ z : Nat, z < 256 ∧ b < B ∧ w.cell? ⟨b, off + i, none⟩ = some (.int .u8 z))
/-- The source, in block p: the bytes, how many of them were taken, the state of the drawing, the size. -/
def IsSrc (w : World) (p : Nat) (v : Value) (n : Nat) : Prop :=
  ∃ (at_ : Nat) (m : Int) (sz : Nat), w.heap[p]? = some (.cells #[v, .int .i64 at_, .int .u64 m, .int .i64 sz] 69 (0, 0)) ∧ at_ ≤ n ∧ 0 ≤ m ∧ m ≤ 18446744073709551615 ∧ sz ≤ 12
theorem cell_of_block {w : World} {p : Nat} {cs : Array Value} {T : TypeId} (h : w.heap[p]? = some (.cells cs T (0, 0))) (j : Nat) : w.cell? ⟨p, j, none⟩ = cs[j]? := by
  simp [World.cell?, h]
theorem frozen_of_block {w : World} {p : Nat} {cs : Array Value} {T : TypeId} (h : w.heap[p]? = some (.cells cs T (0, 0))) (j : Nat) : w.frozen? ⟨p, j, none⟩ = false := by
  simp [World.frozen?, h]

theorem set_same {w : World} {a : Addr} {u : Value} (h : w.cell? a = some u) (x : Value) : (w.setCell a x).cell? a = some x := World.cell?_setCell_same _ _ _ h
/-- One value that was stored into the source, whatever it is. -/
theorem IsSrc.mix {w : World} {p : Nat} {v : Value} {n : Nat} (h : IsSrc w p v n) (m : Int) (h0 : 0 ≤ m) (h9 : m ≤ 18446744073709551615) : IsSrc (w.setCell ⟨p, 2, none⟩ (.int .u64 m)) p v n := by
  obtain ⟨at_, m', sz, hb, hat, _, _, hsz⟩ := h
  refine ⟨at_, m, sz, ?_, hat, h0, h9, hsz⟩
  have := heap_setCell_same w p 2 _ _ (.int .u64 m) hb
  simpa using this
theorem IsSrc.drew {w : World} {p : Nat} {v : Value} {n : Nat} (h : IsSrc w p v n) : IsSrc w.drew p v n := h
theorem grown_set (w : World) (p j : Nat) (x : Value) : w.grownBy (w.setCell ⟨p, j, none⟩ x) (some p) :=
  ⟨rfl, rfl, rfl, by simp [World.setCell], fun k _ hk => Below.heap_setCell _ _ _ _ (fun e => hk (by simp [e]))⟩
theorem grown_trans {a b c : World} {p : Nat} (h : a.grownBy b (some p)) (k : b.grownBy c (some p)) : a.grownBy c (some p) :=
  ⟨k.os.trans h.os, k.tape.trans h.tape, k.output.trans h.output, Nat.le_trans h.size k.size, fun j hj hne => (k.block j (Nat.lt_of_lt_of_le hj h.size) hne).trans (h.block j hj hne)⟩
theorem grown_refl (a : World) (r : Option Nat) : a.grownBy a r := ⟨rfl, rfl, rfl, Nat.le_refl _, fun _ _ _ => rfl⟩
theorem grown_drew {a b : World} {r : Option Nat} (h : a.grownBy b r) : a.grownBy b.drew r := ⟨h.os, h.tape, h.output, h.size, h.block⟩
theorem xor_bounds (a b : Int) : 0 ≤ bits .xor .u64 a b ∧ bits .xor .u64 a b ≤ 18446744073709551615 := bounds_u64 (by simpa using wf_bits .xor .u64 a b)

theorem IsSrc.took {w : World} {p : Nat} {v : Value} {n : Nat} (h : IsSrc w p v n) (a : Nat) (ha : a ≤ n) : IsSrc (w.setCell ⟨p, 1, none⟩ (.int .i64 a)) p v n := by
  obtain ⟨at_, m', sz, hb, hat, h0, h9, hsz⟩ := h
  refine ⟨a, m', sz, ?_, ha, h0, h9, hsz⟩
  have := heap_setCell_same w p 1 _ _ (.int .i64 a) hb
  simpa using this
theorem n_post {w W : World} {p n : Nat} {v : Value} {most x : Int} (h1 : 1 < most) (h2 : most ≤ 9223372036854775807) (hs : IsSrc W p v n) (hg : w.grownBy W (some p)) :
    ∃ r : Nat, Ending.returned (.int .i64 (wrap64 ((IntKind.u64.wrap x).tmod most))) = .returned (.int .i64 r) ∧ (r : Int) < most ∧ IsSrc W p v n ∧ w.grownBy W (some p) := by
  have hx : 0 ≤ IntKind.u64.wrap x := by rw [IntKind.wrap_u64]; omega
  have e : (IntKind.u64.wrap x).tmod most = IntKind.u64.wrap x % most := Int.tmod_eq_emod_of_nonneg hx
  have h3 : 0 ≤ IntKind.u64.wrap x % most := Int.emod_nonneg _ (by omega)
  have h4 : IntKind.u64.wrap x % most < most := Int.emod_lt_of_pos _ (by omega)
  rw [e]
  generalize IntKind.u64.wrap x % most = y at *
  refine ⟨y.toNat, ?_, by omega, hs, hg⟩
  refine ret_int ?_
  unfold wrap64
  omega

set_option maxRecDepth 100000 in
set_option maxHeartbeats 1600000 in
theorem n_rest (p n len cap : Nat) (a : Option Addr) (most : Int) (w : World) (hv : IsSrc w p (.slice a len cap) n) (hn : ∀ at_ m sz, w.heap[p]? = some (.cells #[.slice a len cap, .int .i64 at_, .int .u64 m, .int .i64 sz] 69 (0, 0)) → (len : Int) ≤ at_) (hm1 : 1 < most) (hm2 : most ≤ 9223372036854775807) :
    Calls Tryd.prog 27 #[.pointer (some ⟨p, 0, none⟩), .int .i64 most] w fun e w' => ∃ r : Nat, e = .returned (.int .i64 r) ∧ (r : Int) < most ∧ IsSrc w' p (.slice a len cap) n ∧ w.grownBy w' (some p) := by
  have hv' := hv
  obtain ⟨at_, m, sz, hb, hat, hm0, hm9, hsz⟩ := hv
  have hge := hn _ _ _ hb
  have q0 : w.cell? ⟨p, 0, none⟩ = some (.slice a len cap) := cell_of_block hb 0
  have q1 : w.cell? ⟨p, 1, none⟩ = some (.int .i64 at_) := cell_of_block hb 1
  have q2 : w.cell? ⟨p, 2, none⟩ = some (.int .u64 m) := cell_of_block hb 2
  have qf := frozen_of_block hb
  have q2s : ∀ x y z : Value, (((w.setCell ⟨p, 2, none⟩ x).setCell ⟨p, 2, none⟩ y).setCell ⟨p, 2, none⟩ z).cell? ⟨p, 2, none⟩ = some z := fun x y z => set_same (set_same (set_same q2 x) y) z
  have HV : Hid (IsSrc w p (.slice a len cap) n) := hv'
  clear hn hv' hb
  go_enter Tryd.func27, Tryd.ntmps27
  go_wp2
  go_region
  go_wp2
  go_region
  go_wp2
  go_region
  go_wp2
  go_region
  go_wp2
  go_ret
  exact n_post hm1 hm2 ((((HV.out.mix _ (xor_bounds _ _).1 (xor_bounds _ _).2).mix _ (xor_bounds _ _).1 (xor_bounds _ _).2).mix _ (xor_bounds _ _).1 (xor_bounds _ _).2).drew.drew.drew.drew)
    (grown_drew (grown_drew (grown_drew (grown_drew (grown_trans (grown_trans (grown_set _ _ _ _) (grown_set _ _ _ _)) (grown_set _ _ _ _))))))

set_option maxRecDepth 100000 in
set_option maxHeartbeats 1600000 in
theorem n_take (p n b off cap at_ z : Nat) (m : Int) (sz : Nat) (most : Int) (w : World) (hb : w.heap[p]? = some (.cells #[.slice (some ⟨b, off, none⟩) n cap, .int .i64 at_, .int .u64 m, .int .i64 sz] 69 (0, 0)))
    (hv : IsSrc w p (.slice (some ⟨b, off, none⟩) n cap) n) (hn : n ≤ 9223372036854775807) (hlt : at_ < n) (hz : z < 256) (hcell : w.cell? ⟨b, off + at_, none⟩ = some (.int .u8 z)) (hm1 : 1 < most) (hm2 : most ≤ 9223372036854775807) :
    Calls Tryd.prog 27 #[.pointer (some ⟨p, 0, none⟩), .int .i64 most] w fun e w' => ∃ r : Nat, e = .returned (.int .i64 r) ∧ (r : Int) < most ∧ IsSrc w' p (.slice (some ⟨b, off, none⟩) n cap) n ∧ w.grownBy w' (some p) := by
  have q0 : w.cell? ⟨p, 0, none⟩ = some (.slice (some ⟨b, off, none⟩) n cap) := cell_of_block hb 0
  have q1 : w.cell? ⟨p, 1, none⟩ = some (.int .i64 at_) := cell_of_block hb 1
  have q2 : w.cell? ⟨p, 2, none⟩ = some (.int .u64 m) := cell_of_block hb 2
  have qf := frozen_of_block hb
  have hi : (at_ : Int) < (n : Int) := by omega
  have HV : Hid (IsSrc w p (.slice (some ⟨b, off, none⟩) n cap) n) := hv
  clear hv hb
  go_enter Tryd.func27, Tryd.ntmps27
  go_wp2
  go_region
  go_wp2
  go_region
  go_wp2
  have HS : Hid (IsSrc (w.setCell ⟨p, 1, none⟩ (.int .i64 ((at_ : Int) + 1))).drew.drew p (.slice (some ⟨b, off, none⟩) n cap) n) := (HV.out.took (at_ + 1) hlt).drew.drew
  have HG : Hid (w.grownBy (w.setCell ⟨p, 1, none⟩ (.int .i64 ((at_ : Int) + 1))).drew.drew (some p)) := grown_drew (grown_drew (grown_set _ _ _ _))
  have Q2 : (w.setCell ⟨p, 1, none⟩ (.int .i64 ((at_ : Int) + 1))).drew.drew.cell? ⟨p, 2, none⟩ = some (.int .u64 m) := (World.cell?_setCell_other _ _ _ _ (by simp)).trans q2
  have QF : ∀ j, (w.setCell ⟨p, 1, none⟩ (.int .i64 ((at_ : Int) + 1))).drew.drew.frozen? ⟨p, j, none⟩ = false := fun j => (World.frozen?_setCell _ _ _ _).trans (qf j)
  clear q0 q1 q2 qf hcell HV
  generalize (w.setCell ⟨p, 1, none⟩ (.int .i64 ((at_ : Int) + 1))).drew.drew = W at *
  have q2s : ∀ x y z : Value, (((W.setCell ⟨p, 2, none⟩ x).setCell ⟨p, 2, none⟩ y).setCell ⟨p, 2, none⟩ z).cell? ⟨p, 2, none⟩ = some z := fun x y z => set_same (set_same (set_same Q2 x) y) z
  go_region
  go_wp2
  go_region
  go_wp2
  go_region
  go_wp2
  go_ret
  exact n_post hm1 hm2 ((((HS.out.mix _ (xor_bounds _ _).1 (xor_bounds _ _).2).mix _ (xor_bounds _ _).1 (xor_bounds _ _).2).mix _ (xor_bounds _ _).1 (xor_bounds _ _).2).drew.drew.drew)
    (grown_trans HG.out (grown_drew (grown_drew (grown_drew (grown_trans (grown_trans (grown_set _ _ _ _) (grown_set _ _ _ _)) (grown_set _ _ _ _))))))

theorem IsCode.kept {B : Nat} {w w' : World} {v : Value} {n : Nat} (h : IsCode B w v n) (hc : ∀ k, k < B → w'.heap[k]? = w.heap[k]?) : IsCode B w' v n := by
  obtain ⟨hn, a, cap, rfl, h⟩ := h
  refine ⟨hn, a, cap, rfl, ?_⟩
  rcases h with h | ⟨b, off, rfl, hz⟩
  · exact .inl h
  · refine .inr ⟨b, off, rfl, fun i hi => ?_⟩
    obtain ⟨z, hz1, hb, hz2⟩ := hz i hi
    exact ⟨z, hz1, hb, (World.cell?_of_block (hc b hb)).trans hz2⟩
theorem IsCode.up {B C : Nat} {w : World} {v : Value} {n : Nat} (h : IsCode B w v n) (hBC : B ≤ C) : IsCode C w v n := by
  obtain ⟨hn, a, cap, rfl, h⟩ := h
  refine ⟨hn, a, cap, rfl, ?_⟩
  rcases h with h | ⟨b, off, rfl, hz⟩
  · exact .inl h
  · refine .inr ⟨b, off, rfl, fun i hi => ?_⟩
    obtain ⟨z, hz1, hb, hz2⟩ := hz i hi
    exact ⟨z, hz1, by omega, hz2⟩
theorem IsCode.grown {B p : Nat} {w w' : World} {v : Value} {n : Nat} (h : IsCode B w v n) (hg : w.grownBy w' (some p)) (hp : B ≤ p) (hB : B ≤ w.heap.size) : IsCode B w' v n :=
  h.kept fun k hk => hg.block k (Nat.lt_of_lt_of_le hk hB) (by simp; omega)
theorem IsCode.below {B : Nat} {w w' : World} {v : Value} {n : Nat} (h : IsCode B w v n) {C : Nat} (hb : Below C w w') (hC : B ≤ C) : IsCode B w' v n :=
  h.kept fun k hk => hb.block k (Nat.lt_of_lt_of_le hk hC)

set_option maxRecDepth 100000 in
/-- A number below most is drawn; 0, if most is 1 or less. -/
theorem n_any (B p n : Nat) (v : Value) (most : Int) (w : World) (hv : IsSrc w p v n) (hc : IsCode B w v n) (l : -9223372036854775808 ≤ most) (u : most ≤ 9223372036854775807) :
    Calls Tryd.prog 27 #[.pointer (some ⟨p, 0, none⟩), .int .i64 most] w fun e w' => ∃ r : Nat, e = .returned (.int .i64 r) ∧ (r = 0 ∨ (r : Int) < most) ∧ IsSrc w' p v n ∧ w.grownBy w' (some p) := by
  by_cases h1 : most ≤ 1
  · go_enter Tryd.func27, Tryd.ntmps27
    go_wp2
    go_ret
    exact ⟨0, rfl, .inl rfl, hv, grown_refl _ _⟩
  · obtain ⟨hn, a, cap, rfl, hc⟩ := hc
    rcases hc with rfl | ⟨b, off, rfl, hz⟩
    · refine (n_rest p 0 0 cap a most w hv (fun at_ m sz hh => ?_) (by omega) u).mono ?_
      · obtain ⟨a', m', s', hb', ha', _⟩ := hv
        rw [hh] at hb'
        simp at hb'
        omega
      · rintro e w' ⟨r, he, hr, hs, hg⟩
        exact ⟨r, he, .inr hr, hs, hg⟩
    · have hv' := hv
      obtain ⟨a', m', s', hb', ha', hm0, hm9, hsz⟩ := hv
      by_cases hlt : a' < n
      · obtain ⟨z, hz1, _, hz2⟩ := hz a' hlt
        refine (n_take p n b off cap a' z m' s' most w hb' hv' hn hlt hz1 hz2 (by omega) u).mono ?_
        rintro e w' ⟨r, he, hr, hs, hg⟩
        exact ⟨r, he, .inr hr, hs, hg⟩
      · refine (n_rest p n n cap (some ⟨b, off, none⟩) most w hv' (fun at_ m sz hh => ?_) (by omega) u).mono ?_
        · rw [hh] at hb'
          simp at hb'
          omega
        · rintro e w' ⟨r, he, hr, hs, hg⟩
          exact ⟨r, he, .inr hr, hs, hg⟩
theorem IsSrc.kept {w w' : World} {p n : Nat} {v : Value} (h : IsSrc w p v n) (hk : w'.heap[p]? = w.heap[p]?) : IsSrc w' p v n := by
  obtain ⟨a, m, sz, hb, r⟩ := h
  exact ⟨a, m, sz, hk.trans hb, r⟩
theorem IsSrc.lt {w : World} {p n : Nat} {v : Value} (h : IsSrc w p v n) : p < w.heap.size := by
  obtain ⟨a, m, sz, hb, _⟩ := h
  exact (Array.getElem?_eq_some_iff.1 hb).1
theorem grown_below {B p : Nat} {w w' : World} (hg : w.grownBy w' (some p)) (hp : B ≤ p) (hB : B ≤ w.heap.size) : Below B w w' :=
  ⟨hg.os, hg.tape, hg.output, hg.size, fun k hk => hg.block k (Nat.lt_of_lt_of_le hk hB) (by simp; omega)⟩
end Go.Proofs.YtianmmonkllhpaaDoor.D0

/-
  The laws' own source of drawn numbers, on: a yes or no, a text of so many bytes, a new source.
-/
namespace Go.Proofs.YtianmmonkllhpaaDoor.D1
open Go.RowKit
open Go.Proofs.YtianmmonkllhpaaDoor.C0
open Go.Proofs.YtianmmonkllhpaaDoor.D0

theorem one_any (B p n : Nat) (v : Value) (most : Int) (w : World) (hv : IsSrc w p v n) (hc : IsCode B w v n) (l : -9223372036854775808 ≤ most) (u : most ≤ 9223372036854775807) :
    Calls Tryd.prog 28 #[.pointer (some ⟨p, 0, none⟩), .int .i64 most] w fun e w' => ∃ b : Bool, e = .returned (.bool b) ∧ IsSrc w' p v n ∧ w.grownBy w' (some p) := by
  go_enter Tryd.func28, Tryd.ntmps28
  go_wp2_with fail
  refine (n_any B p n v most _ hv hc l u).mono ?_
  rintro e w1 ⟨r, rfl, _, hs, hg⟩
  go_wp2
  go_ret
  exact ⟨_, rfl, hs, hg⟩

/-- What holds at the head of a round that draws a byte more. -/
def Rel (w0 : World) (p : Nat) (v : Value) (n : Nat) (b : Value) (i : Value) (w : World) : Prop :=
  ∃ l : List UInt8, i = .int .i64 (l.length : Nat) ∧ owns w0.heap.size b l w ∧ IsSrc w p v n ∧ w0.grownBy w (some p)

set_option maxRecDepth 100000 in
set_option maxHeartbeats 800000 in
theorem bytes_any (B p n k : Nat) (v : Value) (w : World) (hv : IsSrc w p v n) (hc : IsCode B w v n) (hB : B ≤ p) (hk : k ≤ 1000000) :
    Calls Tryd.prog 30 #[.pointer (some ⟨p, 0, none⟩), .int .i64 k] w fun e w' => ∃ t : ByteArray, e = .returned (.string t) ∧ t.size = k ∧ IsSrc w' p v n ∧ w.grownBy w' (some p) := by
  obtain ⟨i0, hi, hz0, hz1, hz2⟩ := info_parts info_u8
  have hlt := hv.lt
  go_enter Tryd.func30, Tryd.ntmps30
  go_wp2_with fail
  go_loopw [5, 6] (fun b i wr => Rel w p v n b i wr ∧ intOf i ≤ k) (fun _ i _ => k - (intOf i).toNat)
  case atStart =>
    refine ⟨⟨[], rfl, owns_lit0 _ _ (Nat.le_refl _), hv.kept ?_, World.grownBy_alloc _ _ _⟩, by simp [intOf]⟩
    exact Below.heap_alloc w _ p hlt
  case round =>
    obtain ⟨⟨l, rfl, hown, hs, hg⟩, hle⟩ := hrel
    simp only [intOf] at hle
    have hgs := hg.size
    by_cases hlk : l.length < k
    · have hcr : IsCode B wr v n := hc.grown hg hB (by omega)
      go_wp2_with fail
      refine (n_any B p n v 256 _ hs hcr (by omega) (by omega)).mono ?_
      rintro e w1 ⟨r, rfl, hr, hs1, hg1⟩
      have hr8 : r < 256 := by omega
      have hg1s := hg1.size
      have hown1 : owns w.heap.size u5 l w1 := hown.kept hg1 (by
        rcases hob : u5.ownBlock with _ | g
        · exact .inl rfl
        · have := (hown.lt g hob).1
          exact .inr (by simp; omega))
      go_wp2_with (first
        | (at_builtin; refine wpList_append_own _ rfl _ _ 22 rfl w.heap.size 5 i0 (.int .u8 0) 1 1 Tryd.underlying22 hi hz0 hz1 hz2 rfl (by decide) _ _ _ rfl (hown1.alloc _) ⟨w1.heap.size, 0, none⟩ 1 1 [_] rfl rfl (cell_one_new _ _ _) ?c2 ?c3 ?c4 ?c5 ?_))
      case c2 => intro x hx; simp at hx; subst hx; rfl
      case c3 => unfold maxLen; omega
      case c4 => omega
      case c5 => simp; omega
      intro v' w2 hown' hgrow _
      have hrel : Rel w p v n v' (.int .i64 ((l.length : Int) + 1)) w2 := by
        have hnb : ∀ g, u5.ownBlock = some g → w.heap.size ≤ g := fun g hg' => (hown1.lt g hg').1
        refine ⟨l ++ [UInt8.ofNat r], by simp, owns_snoc _ ?_, hs1.kept ?_, ?_⟩
        · rw [show ((UInt8.ofNat r).toNat : Int) = (r : Int) by simp [UInt8.toNat_ofNat']; omega]; exact hown'
        · rw [hgrow.block p (by simp; omega) (fun e => by have := hnb p e.symm; omega)]
          exact Below.heap_alloc w1 _ p (by omega)
        · refine ⟨hgrow.os.trans (hg1.os.trans hg.os), hgrow.tape.trans (hg1.tape.trans hg.tape), hgrow.output.trans (hg1.output.trans hg.output), ?_, fun j hj hne => ?_⟩
          · have := hgrow.size; simp at this; omega
          · rw [hgrow.block j (by simp; omega) (fun e => by have := hnb j e.symm; omega), Below.heap_alloc w1 _ j (by omega), hg1.block j (by omega) hne, hg.block j hj hne]
      clear hown' hgrow hown1 hs1 hg1 hown hs hg hcr
      go_wp2
      go_roundw
      case rel => exact ⟨hrel, by simp [intOf]; omega⟩
      case measure => simp [intOf]; omega
    · have hconv := conv_own hown
      clear hown
      go_wp2
      go_ret
      exact ⟨_, rfl, by simp [ByteArray.size]; omega, hs, hg⟩
end Go.Proofs.YtianmmonkllhpaaDoor.D1

/-
  The laws' own source of drawn numbers, on: a new source over given bytes; a number at some limit; a byte of the given ones.
-/
namespace Go.Proofs.YtianmmonkllhpaaDoor.D2
open Go.RowKit
open Go.Proofs.YtianmmonkllhpaaDoor.C0
open Go.Proofs.YtianmmonkllhpaaDoor.D0

theorem IsSrc_sized {w : World} {p n : Nat} {v : Value} (h : IsSrc w p v n) (k : Nat) (hk : k ≤ 12) : IsSrc (w.setCell ⟨p, 3, none⟩ (.int .i64 k)) p v n := by
  obtain ⟨at_, m', sz, hb, hat, h0, h9, hsz⟩ := h
  refine ⟨at_, m', k, ?_, hat, h0, h9, hk⟩
  have := heap_setCell_same w p 3 _ _ (.int .i64 k) hb
  simpa using this
/-- The source whose size may be anything. -/
def IsSrc0 (w : World) (p : Nat) (v : Value) (n : Nat) : Prop :=
  ∃ (at_ : Nat) (m : Int) (x : Value), w.heap[p]? = some (.cells #[v, .int .i64 at_, .int .u64 m, x] 69 (0, 0)) ∧ at_ ≤ n ∧ 0 ≤ m ∧ m ≤ 18446744073709551615
theorem IsSrc0.sized {w : World} {p n : Nat} {v : Value} (h : IsSrc0 w p v n) (k : Nat) (hk : k ≤ 12) : IsSrc (w.setCell ⟨p, 3, none⟩ (.int .i64 k)) p v n := by
  obtain ⟨at_, m', sz, hb, hat, h0, h9⟩ := h
  refine ⟨at_, m', k, ?_, hat, h0, h9, hk⟩
  have := heap_setCell_same w p 3 _ _ (.int .i64 k) hb
  simpa using this
theorem IsSrc0.any {w : World} {p n : Nat} {v : Value} (h : IsSrc0 w p v n) (x : Value) : IsSrc0 (w.setCell ⟨p, 3, none⟩ x) p v n := by
  obtain ⟨at_, m', sz, hb, hat, h0, h9⟩ := h
  refine ⟨at_, m', x, ?_, hat, h0, h9⟩
  have := heap_setCell_same w p 3 _ _ x hb
  simpa using this
theorem IsSrc0.mix {w : World} {p n : Nat} {v : Value} (h : IsSrc0 w p v n) (m : Int) (h0 : 0 ≤ m) (h9 : m ≤ 18446744073709551615) : IsSrc0 (w.setCell ⟨p, 2, none⟩ (.int .u64 m)) p v n := by
  obtain ⟨at_, m', sz, hb, hat, _, _⟩ := h
  refine ⟨at_, m, sz, ?_, hat, h0, h9⟩
  have := heap_setCell_same w p 2 _ _ (.int .u64 m) hb
  simpa using this
theorem wrap_bounds (x : Int) : 0 ≤ IntKind.u64.wrap x ∧ IntKind.u64.wrap x ≤ 18446744073709551615 := by rw [IntKind.wrap_u64]; omega

set_option maxRecDepth 100000 in
set_option maxHeartbeats 1600000 in
theorem source_any (v : Value) (n : Nat) (w : World) (hc : IsCode w.heap.size w v n) :
    Calls Tryd.prog 25 #[v] w fun e w' => e = .returned (.pointer (some ⟨w.heap.size, 0, none⟩)) ∧ IsSrc w' w.heap.size v n ∧ IsCode w.heap.size w' v n ∧ Below w.heap.size w w' := by
  have hc' := hc
  obtain ⟨hn, a, cap, rfl, hcc⟩ := hc
  rcases hcc with rfl | ⟨b, off, rfl, hz⟩
  · go_enter Tryd.func25, Tryd.ntmps25
    go_wp2
    refine wp_loop_rounds 1 ?_
    rw [rounds_succ]
    go_wp2
    go_ret
    refine ⟨rfl, ⟨0, 88172645463325252, 0, heap_alloc_new w _, Nat.le_refl _, by omega, by omega, by omega⟩, hc'.below ((Below.refl w.heap.size w).alloc (Nat.le_refl _) _) (Nat.le_refl _), (Below.refl _ _).alloc (Nat.le_refl _) _⟩
  · go_enter Tryd.func25, Tryd.ntmps25
    go_wp2
    go_loopw [4] (fun i wr => ∃ k : Nat, k ≤ n ∧ i = .int .i64 k ∧ IsSrc0 wr w.heap.size (.slice (some ⟨b, off, none⟩) n cap) n ∧ Below w.heap.size w wr ∧ w.heap.size < wr.heap.size) (fun i _ => n - (intOf i).toNat)
    case atStart => exact ⟨0, Nat.zero_le _, rfl, ⟨0, 88172645463325252, _, heap_alloc_new w _, Nat.zero_le _, by omega, by omega⟩, (Below.refl _ _).alloc (Nat.le_refl _) _, by simp⟩
    case round =>
      obtain ⟨k, hk, rfl, hs, hbel, hwz⟩ := hrel
      have HS : Hid (IsSrc0 wr w.heap.size (.slice (some ⟨b, off, none⟩) n cap) n) := hs
      obtain ⟨at_, m, x, hbk, hat, hm0, hm9⟩ := hs
      have q2 : wr.cell? ⟨w.heap.size, 2, none⟩ = some (.int .u64 m) := cell_of_block hbk 2
      have q3 : wr.cell? ⟨w.heap.size, 3, none⟩ = some x := cell_of_block hbk 3
      have qf := frozen_of_block hbk
      have q3s : ∀ y : Value, (wr.setCell ⟨w.heap.size, 3, none⟩ y).cell? ⟨w.heap.size, 3, none⟩ = some y := fun y => set_same q3 y
      clear hbk
      by_cases hgo : k < n ∧ k < 64
      · obtain ⟨hkn, hk64⟩ := hgo
        obtain ⟨z, hz1, hb, hz2⟩ := hz k hkn
        have hcell : wr.cell? ⟨b, off + k, none⟩ = some (.int .u8 z) := (hbel.cell (p := ⟨b, off + k, none⟩) hb).trans hz2
        have hi1 : (k : Int) < (n : Int) := by omega
        go_wp2
        go_region
        go_wp2
        go_roundw
        case rel => exact ⟨k + 1, by omega, by go_num, (HS.out.mix _ (wrap_bounds _).1 (wrap_bounds _).2), (hbel.setCell (by simp) _).drew, by simpa [World.setCell] using hwz⟩
        case measure => simp [intOf]; omega
      · have hfin : ∀ W, Below w.heap.size w W → IsSrc W w.heap.size (.slice (some ⟨b, off, none⟩) n cap) n →
            IsSrc W w.heap.size (.slice (some ⟨b, off, none⟩) n cap) n ∧ IsCode w.heap.size W (.slice (some ⟨b, off, none⟩) n cap) n ∧ Below w.heap.size w W := fun W h1 h2 => ⟨h2, hc'.below h1 (Nat.le_refl _), h1⟩
        rcases (show ¬ k < n ∨ ((k : Int) < (n : Int) ∧ (64 : Int) ≤ (k : Int)) by
          by_cases e : k < n
          · exact .inr ⟨by omega, by omega⟩
          · exact .inl e) with hd | ⟨hd, hd2⟩
        all_goals
          by_cases h12 : n / 20 ≤ 12
          · have h12' : ¬ (12 : Int) < (n : Int) / 20 := by omega
            clear hgo
            go_wp2
            go_ret
            exact ⟨rfl, hfin _ (hbel.setCell (by simp) _) (HS.out.sized (n / 20) h12)⟩
          · have h12' : (12 : Int) < (n : Int) / 20 := by omega
            clear hgo
            go_wp2
            go_ret
            exact ⟨rfl, hfin _ ((hbel.setCell (by simp) _).setCell (by simp) _) ((HS.out.any _).sized 12 (by omega))⟩

end Go.Proofs.YtianmmonkllhpaaDoor.D2

/-
  Drawing: the source stays one, and only its own block is written. Literals of numbers.
-/
namespace Go.Proofs.YtianmmonkllhpaaDoor.DS
open Go.RowKit
open Go.Proofs.YtianmmonkllhpaaDoor.C0 Go.Proofs.YtianmmonkllhpaaDoor.D0 Go.Proofs.YtianmmonkllhpaaDoor.D1 Go.Proofs.YtianmmonkllhpaaDoor.D2 Go.Proofs.YtianmmonkllhpaaDoor.HB
/-- A source in block p over n bytes that lie below B. -/
structure Dr (B p n : Nat) (v : Value) (w : World) : Prop where
  src : IsSrc w p v n
  code : IsCode B w v n
  le : B ≤ p
theorem Dr.lt {B p n : Nat} {v : Value} {w : World} (h : Dr B p n v w) : p < w.heap.size := h.src.lt
theorem Dr.below {B p n : Nat} {v : Value} {w w' : World} (h : Dr B p n v w) (hb : Below w.heap.size w w') : Dr B p n v w' :=
  ⟨h.src.kept (hb.block p h.lt), h.code.below hb (Nat.le_of_lt (Nat.lt_of_le_of_lt h.le h.lt)), h.le⟩
theorem Dr.grown {B p n : Nat} {v : Value} {w w' : World} (h : Dr B p n v w) (hs : IsSrc w' p v n) (hg : w.grownBy w' (some p)) : Dr B p n v w' :=
  ⟨hs, h.code.grown hg h.le (Nat.le_of_lt (Nat.lt_of_le_of_lt h.le h.lt)), h.le⟩
theorem Dr.drew {B p n : Nat} {v : Value} {w : World} (h : Dr B p n v w) : Dr B p n v w.drew := ⟨h.src.drew, h.code, h.le⟩
theorem Dr.alloc {B p n : Nat} {v : Value} {w : World} (h : Dr B p n v w) (o : Obj) : Dr B p n v (w.alloc o) := h.below (albel w o)
theorem Dr.set {B p n g j : Nat} {v : Value} {w : World} (h : Dr B p n v w) (hg : p < g) (x : Value) : Dr B p n v (w.setCell ⟨g, j, none⟩ x) :=
  ⟨h.src.kept (Below.heap_setCell _ _ _ _ (by simp; omega)), h.code.kept (fun k hk => Below.heap_setCell _ _ _ _ (by have := h.le; simp; omega)), h.le⟩
theorem drawN {B p n : Nat} {v : Value} {w : World} (most : Int) (h : Dr B p n v w) (l : 0 < most) (u : most ≤ 9223372036854775807) :
    Calls Tryd.prog 27 #[.pointer (some ⟨p, 0, none⟩), .int .i64 most] w fun e w' => ∃ r : Nat, e = .returned (.int .i64 r) ∧ (r : Int) < most ∧ Dr B p n v w' ∧ w.grownBy w' (some p) :=
  (n_any B p n v most w h.src h.code (by omega) u).mono (fun e w' ⟨r, he, hr, hs, hg⟩ => ⟨r, he, by omega, h.grown hs hg, hg⟩)
theorem drawOne {B p n : Nat} {v : Value} {w : World} (most : Int) (h : Dr B p n v w) (l : 0 < most) (u : most ≤ 9223372036854775807) :
    Calls Tryd.prog 28 #[.pointer (some ⟨p, 0, none⟩), .int .i64 most] w fun e w' => ∃ b : Bool, e = .returned (.bool b) ∧ Dr B p n v w' ∧ w.grownBy w' (some p) :=
  (one_any B p n v most w h.src h.code (by omega) u).mono (fun e w' ⟨b, he, hs, hg⟩ => ⟨b, he, h.grown hs hg, hg⟩)
theorem drawBytes {B p n : Nat} {v : Value} {w : World} (k : Nat) (h : Dr B p n v w) (hk : k ≤ 1000000) :
    Calls Tryd.prog 30 #[.pointer (some ⟨p, 0, none⟩), .int .i64 k] w fun e w' => ∃ t : ByteArray, e = .returned (.string t) ∧ t.size = k ∧ Dr B p n v w' ∧ w.grownBy w' (some p) :=
  (bytes_any B p n k v w h.src h.code h.le hk).mono (fun _ _ ⟨t, he, hr, hs, hg⟩ => ⟨t, he, hr, h.grown hs hg, hg⟩)
theorem drawSource (v : Value) (n : Nat) (w : World) (hc : IsCode w.heap.size w v n) :
    Calls Tryd.prog 25 #[v] w fun e w' => e = .returned (.pointer (some ⟨w.heap.size, 0, none⟩)) ∧ Dr w.heap.size w.heap.size n v w' ∧ Below w.heap.size w w' :=
  (source_any v n w hc).mono (fun _ _ ⟨he, hs, hc', hb⟩ => ⟨he, ⟨hs, hc', Nat.le_refl _⟩, hb⟩)
/-- A new source where a block of the call's own lies already. -/
theorem sourceA (v : Value) (n : Nat) (w : World) (o : Obj) (hc : IsCode w.heap.size w v n) :
    Calls Tryd.prog 25 #[v] (w.alloc o) fun e w' => e = .returned (.pointer (some ⟨w.heap.size + 1, 0, none⟩)) ∧ Dr (w.heap.size + 1) (w.heap.size + 1) n v w' ∧ Below (w.heap.size + 1) (w.alloc o) w' := by
  have h := drawSource v n (w.alloc o) (by rw [asz]; exact (hc.below (albel w o) (Nat.le_refl _)).up (by omega))
  rw [asz] at h
  exact h
theorem grown_of {w w' : World} {p : Nat} (h : Below w.heap.size w w') : w.grownBy w' (some p) := ⟨h.os, h.tape, h.output, h.size, fun k hk _ => h.block k hk⟩
theorem grown_new {w x : World} {p g j : Nat} (h : w.grownBy x (some p)) (hg : w.heap.size ≤ g) (y : Value) : w.grownBy (x.setCell ⟨g, j, none⟩ y) (some p) :=
  ⟨h.os, h.tape, h.output, by simpa [World.setCell] using h.size, fun k hk hne => (Below.heap_setCell _ _ _ _ (by simp; omega)).trans (h.block k hk hne)⟩
theorem carryG {w w' : World} {p g : Nat} {x : Obj} (k : w.heap[g]? = some x) (h : w.grownBy w' (some p)) (hne : g ≠ p) : w'.heap[g]? = some x :=
  (h.block g (lt_some k) (by simpa using hne)).trans k
/-- A number out of a literal. -/
theorem lit_get (zs : List Int) (lo hi : Int) (h : zs.all (fun z => decide (lo ≤ z ∧ z ≤ hi)) = true) (r : Nat) (hr : r < zs.length) :
    ∃ z, ((zs.map (Value.int .i64)).toArray)[r]? = some (.int .i64 z) ∧ lo ≤ z ∧ z ≤ hi := by
  have hm := List.all_eq_true.1 h zs[r] (List.getElem_mem _)
  have := of_decide_eq_true hm
  exact ⟨zs[r], by simp [hr], this.1, this.2⟩
theorem lit_kept {w w1 : World} {p : Nat} {cs : Array Value} {T : TypeId} (hg : (w.alloc (.cells cs T)).grownBy w1 (some p)) (hp : p < w.heap.size) (r : Nat) : w1.cell? ⟨w.heap.size, r, none⟩ = cs[r]? :=
  block_cell (carryG (heap_alloc_new w (.cells cs T)) hg (by omega)) r

/-- A text out of a literal. -/
theorem pick_any {B p n : Nat} {v : Value} {w : World} (ts : List ByteArray) (m g : Nat) (hm : ts.length = m) (h0 : 0 < m) (h1 : m ≤ 1000) (h : Dr B p n v w) (k : w.heap[g]? = some (.cells (ts.map Value.string).toArray 9)) (hne : g ≠ p) :
    Calls Tryd.prog 29 #[.pointer (some ⟨p, 0, none⟩), .slice (some ⟨g, 0, none⟩) m m] w fun e w' => ∃ t, t ∈ ts ∧ e = .returned (.string t) ∧ Dr B p n v w' ∧ w.grownBy w' (some p) := by
  subst hm
  go_enter Tryd.func29, Tryd.ntmps29
  go_wp2_with fail
  refine (drawN (ts.length : Nat) h (by omega) (by omega)).mono ?_
  rintro e w1 ⟨r, rfl, hr, h2, g1⟩
  have hrn : r < ts.length := by omega
  have hcell : w1.cell? ⟨g, r, none⟩ = some (.string ts[r]) := by
    rw [block_cell (carryG k g1 hne) r]; simp [hrn]
  have ht : ts[r] ∈ ts := List.getElem_mem _
  generalize ts[r] = t at *
  clear k
  go_wp2
  go_ret
  exact ⟨t, ht, rfl, h2, g1⟩
end Go.Proofs.YtianmmonkllhpaaDoor.DS
