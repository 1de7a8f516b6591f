/-
  A new disk; a refusal.
-/
import Derived.Test.YtoihhjdllcockaaT3
import Derived.Test.YtoihhjdllcockaaT1
namespace Go.Proofs.Ytoihhjdllcockaa.T4
open Go.RowKit
open Go.Proofs.Ytoihhjdllcockaa.C0 Go.Proofs.Ytoihhjdllcockaa.S0 Go.Proofs.Ytoihhjdllcockaa.S1 Go.Proofs.Ytoihhjdllcockaa.S2 Go.Proofs.Ytoihhjdllcockaa.S3 Go.Proofs.Ytoihhjdllcockaa.O1 Go.Proofs.Ytoihhjdllcockaa.T0 Go.Proofs.Ytoihhjdllcockaa.T2
def emp : ByteArray := ⟨#[]⟩
theorem none_told (w w' : World) (hb : Below w.heap.size w w') : DTold w [] [] (.returned (.agg #[.slice none 0 0, .slice none 0 0])) w' :=
  ⟨none, 0, none, 0, rfl, ⟨World.ownsRow_nil _ _ _ _, World.ownsRow_nil _ _ _ _⟩, hb⟩
def newOf (n : Int) : List ByteArray := if 1 ≤ n ∧ n ≤ 64 then List.replicate n.toNat emp else []
theorem new_row (w : World) (n : Nat) (hn : n ≤ 64) : OStrs w.heap.size (w.alloc (.cells (madeCells #[Value.string ⟨#[]⟩] n) 9)) (.slice (some ⟨w.heap.size, 0, none⟩) n n) (List.replicate n emp) := by
  have hrow : (w.alloc (.cells (madeCells #[Value.string ⟨#[]⟩] n) 9)).rowIs w.heap.size 9 (List.replicate n emp).length (fun _ => .string ⟨#[]⟩) :=
    ⟨_, Go.Deep.blk_alloc_new _ _, by rw [size_madeCells, List.length_replicate], fun i hi => by rw [List.length_replicate] at hi; simp [madeCells, hi, Nat.mod_one]⟩
  have := ostrs_of_row hrow (fun i s hs => by rw [List.getElem?_replicate] at hs; split at hs <;> cases hs; rfl) (Nat.le_refl _) (by rw [List.length_replicate]; unfold maxLen; omega)
  rwa [List.length_replicate] at this
theorem new_end (w : World) (k : Nat) (hk : k ≤ 64) (o : Obj) : DTold w (List.replicate k emp) [] (.returned (.agg #[.slice (some ⟨w.heap.size + 1, 0, none⟩) k k, .slice none 0 0])) ((w.alloc o).alloc (.cells (madeCells #[Value.string ⟨#[]⟩] k) 9)) := by
  have h := new_row (w.alloc o) k hk
  have e : (w.alloc o).heap.size = w.heap.size + 1 := by simp
  rw [e] at h
  refine ⟨some ⟨w.heap.size + 1, 0, none⟩, k, none, 0, by rw [List.length_replicate]; rfl, ⟨?_, World.ownsRow_nil _ _ _ _⟩, ((Below.refl _ _).alloc (Nat.le_refl _) _).alloc (by simp) _⟩
  rw [List.length_replicate]
  exact h.mono (by omega)
set_option maxRecDepth 100000 in
set_option maxHeartbeats 800000 in
theorem new_spec (n : Int) (w : World) : Calls Try.prog 22 #[.int .i64 n] w fun e w' => DTold w (newOf n) [] e w' := by
  by_cases h : 1 ≤ n ∧ n ≤ 64
  · obtain ⟨k, rfl⟩ : ∃ k : Nat, n = k := ⟨n.toNat, by omega⟩
    obtain ⟨h1, h2⟩ := h
    have hmk := run_make_row' (P := Try.prog) 23 9 (.string ⟨#[]⟩) 16 Try.underlying23 info_str rfl .i64 .i64 k (by omega) (by omega)
    have hN : newOf k = List.replicate k emp := by unfold newOf; rw [if_pos ⟨h1, h2⟩]; rfl
    rw [hN]
    clear hN
    go_enter Try.func22, Try.ntmps22
    go_wp2_with (first
      | (go_at_call 48; refine (is_yes _ _ _ _ (by omega) (by omega)).mono ?_; rintro e w1 ⟨rfl, rfl⟩))
    exact bodyPost_ret (v := .agg #[.slice (some ⟨w.heap.size + 1, 0, none⟩) k k, .slice none 0 0]) (by simp [results, Try.results22, go_sem]) rfl (new_end w k (by omega) _)
  · have hN : newOf n = [] := by unfold newOf; rw [if_neg h]
    rw [hN]
    clear hN
    go_enter Try.func22, Try.ntmps22
    go_wp2_with (first
      | (go_at_call 48; refine (is_no _ _ _ _ h).mono ?_; rintro e w1 ⟨rfl, rfl⟩))
    exact bodyPost_ret (v := .agg #[.slice none 0 0, .slice none 0 0]) (by simp [results, Try.results22, go_sem]) rfl (none_told w _ ((Below.refl _ _).alloc (Nat.le_refl _) _))
set_option maxRecDepth 100000 in
set_option maxHeartbeats 800000 in
theorem new_impl (n : Int) (w : World) : Calls Try.prog 21 #[.int .i64 n] w fun e w' => DTold w (newOf n) [] e w' := by
  by_cases h : 1 ≤ n ∧ n ≤ 64
  · obtain ⟨k, rfl⟩ : ∃ k : Nat, n = k := ⟨n.toNat, by omega⟩
    obtain ⟨h1, h2⟩ := h
    have g1 : ¬ (k : Int) < 1 := by omega
    have g2 : ¬ (64 : Int) < (k : Int) := by omega
    have hmk := run_make_row' (P := Try.prog) 23 9 (.string ⟨#[]⟩) 16 Try.underlying23 info_str rfl .i64 .i64 k (by omega) (by omega)
    have hN : newOf k = List.replicate k emp := by unfold newOf; rw [if_pos ⟨h1, h2⟩]; rfl
    rw [hN]
    clear hN
    go_enter Try.func21, Try.ntmps21
    go_wp2
    exact bodyPost_ret (v := .agg #[.slice (some ⟨w.heap.size + 1, 0, none⟩) k k, .slice none 0 0]) (by simp [results, Try.results21, go_sem]) rfl (new_end w k (by omega) _)
  · have hN : newOf n = [] := by unfold newOf; rw [if_neg h]
    rw [hN]
    clear hN
    by_cases g1 : n < 1
    · clear h
      go_enter Try.func21, Try.ntmps21
      go_wp2
      exact bodyPost_ret (v := .agg #[.slice none 0 0, .slice none 0 0]) (by simp [results, Try.results21, go_sem]) rfl (none_told w _ ((Below.refl _ _).alloc (Nat.le_refl _) _))
    · have g2 : 64 < n := by omega
      clear h
      go_enter Try.func21, Try.ntmps21
      go_wp2
      exact bodyPost_ret (v := .agg #[.slice none 0 0, .slice none 0 0]) (by simp [results, Try.results21, go_sem]) rfl (none_told w _ ((Below.refl _ _).alloc (Nat.le_refl _) _))

/-- What is told of a disk and a text, with a code. -/
abbrev OTold (w : World) (ss : List ByteArray) (ps : List Pend) (d : ByteArray) (k : Int) (e : Ending) (w' : World) : Prop :=
  ∃ a c a' c', e = .returned (.agg #[.slice a ss.length c, .slice a' ps.length c', .string d, .int .i64 k]) ∧ ODisk w.heap.size w' (.slice a ss.length c) (.slice a' ps.length c') ss ps ∧ Below w.heap.size w w'
theorem none_otold (w w' : World) (k : Int) (hb : Below w.heap.size w w') : OTold w [] [] emp k (.returned (.agg #[.slice none 0 0, .slice none 0 0, .string ⟨#[]⟩, .int .i64 k])) w' :=
  ⟨none, 0, none, 0, rfl, ⟨World.ownsRow_nil _ _ _ _, World.ownsRow_nil _ _ _ _⟩, hb⟩
set_option maxRecDepth 100000 in
theorem ill_spec (k : Int) (w : World) : Calls Try.prog 47 #[.int .i64 k] w fun e w' => e = .returned (.agg #[.slice none 0 0, .slice none 0 0, .string ⟨#[]⟩, .int .i64 k]) ∧ Below w.heap.size w w' := by
  go_enter Try.func47, Try.ntmps47
  go_wp2
  exact bodyPost_ret (v := .agg #[.slice none 0 0, .slice none 0 0, .string ⟨#[]⟩, .int .i64 k]) (by simp [results, Try.results47, go_sem]) rfl ⟨rfl, (Below.refl _ _).alloc (Nat.le_refl _) _⟩
end Go.Proofs.Ytoihhjdllcockaa.T4
