/-
  How many bits a number has: the library's.
-/
import Derived.Test.YtianmmonkllhpaaDoorC0
namespace Go.Proofs.YtianmmonkllhpaaDoor.LB
open Go.RowKit
open Go.Proofs.YtianmmonkllhpaaDoor.C0

set_option maxRecDepth 100000 in
theorem len_any (x k : Nat) (w : World) (hk : k < 8) (h1 : 2 ^ (k + 8) ≤ x) (h2 : x < 2 ^ (k + 9)) :
    Calls Tryd.prog 60 #[.int .u64 x] w fun e w' => e = .returned (.int .i64 ((k + 9 : Nat) : Int)) ∧ w = w' := by
  have hx : x < 65536 := by have := Nat.pow_le_pow_right (n := 2) (by decide) (show k + 9 ≤ 16 by omega); omega
  have hx0 : 256 ≤ x := by have := Nat.pow_le_pow_right (n := 2) (by decide) (show 8 ≤ k + 8 by omega); omega
  have t1 : ¬ (4294967296 : Int) ≤ (x : Int) := by omega
  have t2 : ¬ (65536 : Int) ≤ (x : Int) := by omega
  have t3 : (256 : Int) ≤ (x : Int) := by omega
  go_enter Tryd.func60, Tryd.ntmps60
  generalize hT : (⟨(([0, 1, 2, 2, 3, 3, 3, 3, 4, 4, 4, 4, 4, 4, 4, 4, 5, 5, 5, 5, 5, 5, 5, 5, 5, 5, 5, 5, 5, 5, 5, 5, 6, 6, 6, 6, 6, 6, 6, 6, 6, 6, 6, 6, 6, 6, 6, 6, 6, 6, 6, 6, 6, 6, 6, 6, 6, 6, 6, 6, 6, 6, 6, 6].append [7, 7, 7, 7, 7, 7, 7, 7, 7, 7, 7, 7, 7, 7, 7, 7, 7, 7, 7, 7, 7, 7, 7, 7, 7, 7, 7, 7, 7, 7, 7, 7, 7, 7, 7, 7, 7, 7, 7, 7, 7, 7, 7, 7, 7, 7, 7, 7, 7, 7, 7, 7, 7, 7, 7, 7, 7, 7, 7, 7, 7, 7, 7, 7]).append ([8, 8, 8, 8, 8, 8, 8, 8, 8, 8, 8, 8, 8, 8, 8, 8, 8, 8, 8, 8, 8, 8, 8, 8, 8, 8, 8, 8, 8, 8, 8, 8, 8, 8, 8, 8, 8, 8, 8, 8, 8, 8, 8, 8, 8, 8, 8, 8, 8, 8, 8, 8, 8, 8, 8, 8, 8, 8, 8, 8, 8, 8, 8, 8].append [8, 8, 8, 8, 8, 8, 8, 8, 8, 8, 8, 8, 8, 8, 8, 8, 8, 8, 8, 8, 8, 8, 8, 8, 8, 8, 8, 8, 8, 8, 8, 8, 8, 8, 8, 8, 8, 8, 8, 8, 8, 8, 8, 8, 8, 8, 8, 8, 8, 8, 8, 8, 8, 8, 8, 8, 8, 8, 8, 8, 8, 8, 8, 8])).toArray⟩ : ByteArray) = T
  have hs : T.size = 256 := by rw [← hT]; decide +kernel
  have hq : Hid (∀ j (h : j < T.size), 2 ^ k ≤ j → j < 2 ^ (k + 1) → ((T[j]'h).toNat : Int) = (k + 1 : Nat)) := by
    have key : ∀ k, k < 8 → ∀ j, j < 256 → 2 ^ k ≤ j → j < 2 ^ (k + 1) → (T.data.getD j 0).toNat = k + 1 := by rw [← hT]; decide +kernel
    intro j h a b
    have := key k hk j (by omega) a b
    rw [show (T[j]'h) = T.data.getD j 0 from ?_, this]
    show (T.data[j]'h) = _
    have h' : j < T.data.size := h
    rw [Array.getD_eq_getD_getElem?, Array.getElem?_eq_getElem h']; rfl
  clear hT
  have H1 : Hid (2 ^ (k + 8) ≤ x ∧ x < 2 ^ (k + 9)) := ⟨h1, h2⟩
  clear h1 h2
  generalize hX : (x : Int) = X at *
  have HX : Hid ((x : Int) = X) := hX
  clear hX hx hx0
  go_wp2
  go_ret
  refine ⟨ret_int ?_, rfl⟩
  have e1 := HX.out
  have e2 := H1.out
  have p : (2 : Nat) ^ (k + 8) = 2 ^ k * 256 := by rw [Nat.pow_add]
  have p2 : (2 : Nat) ^ (k + 9) = 2 ^ (k + 1) * 256 := by rw [show k + 9 = (k + 1) + 8 by omega, Nat.pow_add]
  rw [p, p2] at e2
  rw [hq.out _ _ (by omega) (by omega)]
  unfold wrap64
  omega
end Go.Proofs.YtianmmonkllhpaaDoor.LB
