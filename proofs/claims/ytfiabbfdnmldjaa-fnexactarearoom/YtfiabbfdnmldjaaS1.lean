/-
  How great a disk that came in is: the laws' own measure.
-/
import Derived.Test.YtfiabbfdnmldjaaS0
namespace Go.Proofs.Ytfiabbfdnmldjaa.S1
open Go.RowKit
open Go.Proofs.Ytfiabbfdnmldjaa.C0 Go.Proofs.Ytfiabbfdnmldjaa.S0

/-- What a measure that has not run out says of a row of texts. -/
def okS (l : List ByteArray) (left r : Int) : Prop := r < 0 ∨ (0 ≤ r ∧ r ≤ left ∧ (l.length : Int) ≤ left ∧ ∀ s ∈ l, (s.size : Int) ≤ left)
theorem get_take_succ {α : Type} (l : List α) (k : Nat) (x : α) (h : l[k]? = some x) : l.take (k + 1) = l.take k ++ [x] := by
  rw [List.take_add_one, h]; rfl
set_option maxRecDepth 100000 in
set_option maxHeartbeats 800000 in
theorem szStrs_any (v : Value) (l : List ByteArray) (left : Int) (w : World) (hv : Strs w v l) (hz : ∀ s ∈ l, s.size ≤ maxLen) (h0 : 0 ≤ left) (h1 : left ≤ 1048576) :
    Calls Try.prog 9 #[v, .int .i64 left] w fun e w' => ∃ r, e = .returned (.int .i64 r) ∧ okS l left r ∧ w' = w := by
  obtain ⟨a, cap, rfl, hl, hc⟩ := hv
  unfold maxLen at hl hz
  by_cases hb : left < l.length
  · go_enter Try.func9, Try.ntmps9
    go_wp2
    go_ret
    exact ⟨_, rfl, .inl (by omega), rfl⟩
  go_enter Try.func9, Try.ntmps9
  go_wp2
  go_loop [1, 5] (fun q i => ∃ k : Nat, k ≤ l.length ∧ i = .int .i64 k ∧ ∃ r : Int, q = .int .i64 r ∧ 0 ≤ r ∧ r ≤ left ∧ ∀ s ∈ l.take k, (s.size : Int) ≤ left) (fun _ i => l.length - (intOf i).toNat)
  case atStart => exact ⟨0, Nat.zero_le _, rfl, _, rfl, by omega, by omega, by simp⟩
  case round =>
    obtain ⟨k, hk, rfl, r, rfl, hr0, hr1, hrs⟩ := hrel
    by_cases hlt : k < l.length
    · obtain ⟨b, off, rfl, hbb, hcc⟩ := hc (by omega)
      obtain ⟨s, hs⟩ : ∃ s, l[k]? = some s := ⟨_, List.getElem?_eq_getElem hlt⟩
      have hcell := hcc k s hs
      have hsz := hz s (List.mem_of_getElem? hs)
      have HS : Hid (l[k]? = some s) := hs
      clear hs hcc
      go_wp2
      · go_ret
        exact ⟨_, rfl, .inl (by omega), rfl⟩
      · go_round
        case rel => 
          refine ⟨k + 1, by omega, by go_num, _, rfl, by omega, by omega, ?_⟩
          rw [get_take_succ l k s HS.out]
          intro x hx
          rcases List.mem_append.1 hx with h | h
          · exact hrs x h
          · simp at h; subst h; omega
        case measure => simp [intOf]; omega
    · go_wp2
      go_ret
      refine ⟨_, rfl, .inr ⟨by omega, by omega, by omega, ?_⟩, rfl⟩
      rw [List.take_of_length_le (by omega)] at hrs
      exact hrs

def okOne (s : ByteArray) (left r : Int) : Prop := r < 0 ∨ (0 ≤ r ∧ r ≤ left ∧ (s.size : Int) ≤ left)
set_option maxRecDepth 100000 in
theorem szPend_any (at_ : Int) (s : ByteArray) (left : Int) (w : World) (hz : s.size ≤ maxLen) (h0 : 0 ≤ left) (h1 : left ≤ 1048576) :
    Calls Try.prog 19 #[.agg #[.int .i64 at_, .string s], .int .i64 left] w fun e w' => ∃ r, e = .returned (.int .i64 r) ∧ okOne s left r ∧ Below w.heap.size w w' := by
  unfold maxLen at hz
  by_cases hb : left < s.size
  · go_enter Try.func19, Try.ntmps19
    go_wp2
    go_ret
    exact ⟨_, rfl, .inl (by omega), (Below.refl _ _).alloc (Nat.le_refl _) _⟩
  · go_enter Try.func19, Try.ntmps19
    go_wp2
    go_ret
    exact ⟨_, rfl, .inr ⟨by omega, by omega, by omega⟩, (Below.refl _ _).alloc (Nat.le_refl _) _⟩
def RelP (l : List Pend) (left : Int) (w : World) (q i : Value) (wr : World) : Prop :=
  ∃ (k : Nat) (r : Int), k ≤ l.length ∧ i = .int .i64 k ∧ q = .int .i64 r ∧ 0 ≤ r ∧ r ≤ left ∧ (∀ s ∈ l.take k, (s.2.size : Int) ≤ left) ∧ Below w.heap.size w wr
def okP (l : List Pend) (left r : Int) : Prop := r < 0 ∨ (0 ≤ r ∧ r ≤ left ∧ (l.length : Int) ≤ left ∧ ∀ s ∈ l, (s.2.size : Int) ≤ left)
set_option maxRecDepth 100000 in
set_option maxHeartbeats 800000 in
theorem szPends_any (v : Value) (l : List Pend) (left : Int) (w : World) (hv : Pends w v l) (hz : ∀ s ∈ l, s.2.size ≤ maxLen) (h0 : 0 ≤ left) (h1 : left ≤ 1048576) :
    Calls Try.prog 10 #[v, .int .i64 left] w fun e w' => ∃ r, e = .returned (.int .i64 r) ∧ okP l left r ∧ Below w.heap.size w w' := by
  obtain ⟨a, cap, rfl, hl, hc⟩ := hv
  unfold maxLen at hl
  by_cases hb : left < l.length
  · go_enter Try.func10, Try.ntmps10
    go_wp2
    go_ret
    exact ⟨_, rfl, .inl (by omega), Below.refl _ _⟩
  go_enter Try.func10, Try.ntmps10
  go_wp2
  go_loopw [1, 5] (fun q i wr => RelP l left w q i wr) (fun _ i _ => l.length - (intOf i).toNat)
  case atStart => exact ⟨0, _, Nat.zero_le _, rfl, rfl, by omega, by omega, by simp, Below.refl _ _⟩
  case round =>
    obtain ⟨k, r, hk, rfl, rfl, hr0, hr1, hrs, hbel⟩ := hrel
    by_cases hlt : k < l.length
    · obtain ⟨b, off, rfl, hbb, hcc⟩ := hc (by omega)
      obtain ⟨s, hs⟩ : ∃ s, l[k]? = some s := ⟨_, List.getElem?_eq_getElem hlt⟩
      obtain ⟨c0, c1⟩ := hcc k s hs
      rw [← hbel.cell (p := ⟨b, off + k * 2, none⟩) hbb] at c0
      rw [← hbel.cell (p := ⟨b, off + k * 2 + 1, none⟩) hbb] at c1
      have hsz := hz s (List.mem_of_getElem? hs)
      have HS : Hid (l[k]? = some s) := hs
      clear hs hcc
      go_wp2_with (first | (go_at_call 19; refine (szPend_any _ _ _ _ hsz hr0 (by omega)).mono ?_; rintro e w1 ⟨r', rfl, hr', hbel1⟩))
      all_goals (unfold okOne at hr')
      · go_ret
        exact ⟨_, rfl, .inl (by omega), hbel.trans (hbel1.mono hbel.size)⟩
      · go_roundw
        case rel => 
          refine ⟨k + 1, _, by omega, by go_num, rfl, by omega, by omega, ?_, hbel.trans (hbel1.mono hbel.size)⟩
          rw [get_take_succ l k s HS.out]
          intro x hx
          rcases List.mem_append.1 hx with h | h
          · exact hrs x h
          · simp at h; subst h; omega
        case measure => simp [intOf]; omega
    · go_wp2
      go_ret
      refine ⟨_, rfl, .inr ⟨by omega, by omega, by omega, ?_⟩, hbel⟩
      rw [List.take_of_length_le (by omega)] at hrs
      exact hrs
/-- What the measure says of a disk. -/
def okD (ss : List ByteArray) (ps : List Pend) (r : Int) : Prop :=
  r < 0 ∨ (0 ≤ r ∧ ss.length ≤ 1048576 ∧ ps.length ≤ 1048576 ∧ (∀ s ∈ ss, s.size ≤ 1048576) ∧ ∀ p ∈ ps, p.2.size ≤ 1048576)
set_option maxRecDepth 100000 in
set_option maxHeartbeats 800000 in
theorem szDisk_any (vs vp : Value) (ss : List ByteArray) (ps : List Pend) (w : World) (hs : Strs w vs ss) (hp : Pends w vp ps) (hz : ∀ s ∈ ss, s.size ≤ maxLen) (hzp : ∀ s ∈ ps, s.2.size ≤ maxLen) :
    Calls Try.prog 4 #[.agg #[vs, vp], .int .i64 1048576] w fun e w' => ∃ r, e = .returned (.int .i64 r) ∧ okD ss ps r ∧ Below w.heap.size w w' := by
  have hbox : Below w.heap.size w (w.alloc (.cells #[vs, vp] 25)) := (Below.refl _ _).alloc (Nat.le_refl _) _
  go_enter Try.func4, Try.ntmps4
  go_wp2_with (first | (go_at_call 9; refine (szStrs_any _ ss 1048576 _ (hs.below hbox) hz (by omega) (by omega)).mono ?_; rintro e w1 ⟨r, rfl, hr, rfl⟩) | (go_at_call 10; refine (szPends_any _ ps _ _ (hp.below hbox) hzp (by omega) (by unfold okS at hr; omega)).mono ?_; rintro e w1 ⟨r', rfl, hr', hb1⟩))
  · go_ret
    exact ⟨_, rfl, .inl (by omega), hbox⟩
  · go_ret
    exact ⟨_, rfl, .inl (by omega), hbox.trans (hb1.mono hbox.size)⟩
  · go_ret
    rcases hr with hr | ⟨hr0, hr1, hr2, hr3⟩
    · omega
    rcases hr' with hr' | ⟨hp0, hp1, hp2, hp3⟩
    · omega
    exact ⟨_, rfl, .inr ⟨hp0, by omega, by omega, fun s h => by have := hr3 s h; omega, fun s h => by have := hp3 s h; omega⟩, hbox.trans (hb1.mono hbox.size)⟩
end Go.Proofs.Ytfiabbfdnmldjaa.S1
