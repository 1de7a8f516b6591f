/-
  Digest, Mac and Stretch, in the specification and in the program.
-/
import Derived.Test.YteehgicnfageiaaDoorK5
import Derived.Test.YteehgicnfageiaaDoorK8
import Derived.Test.YteehgicnfageiaaDoorK9
namespace Go.Proofs.YteehgicnfageiaaDoor.KA
open Go.RowKit
open Go.Proofs.YteehgicnfageiaaDoor.C0
open Go.Proofs.YteehgicnfageiaaDoor.K2 (Laid)
open Go.Proofs.YteehgicnfageiaaDoor.K3 (bytesOf)

theorem size_mk (l : List UInt8) : (⟨l.toArray⟩ : ByteArray).size = l.length := by simp [ByteArray.size]
theorem of_mk (l : List UInt8) : bytesOf ⟨l.toArray⟩ = l := by simp
theorem of_append (s t : ByteArray) : bytesOf (s ++ t) = bytesOf s ++ bytesOf t := by simp
theorem of_length (s : ByteArray) : (bytesOf s).length = s.size := by simp

/-- What Digest answers. -/
def digestB (s : ByteArray) : List UInt8 := if 8000 < s.size then [] else Ms.digest (bytesOf s)



/-- A mac of a key that fits into a block. -/
def macS (k t : List UInt8) : List UInt8 := Ms.digest (Ms.mask k 92 ++ Ms.digest (Ms.mask k 54 ++ t))
theorem mac_macS (k t : List UInt8) : Ms.mac k t = macS (Ms.keyOf k) t := rfl
theorem macS_long (k t : List UInt8) (h : 64 < k.length) : macS (Ms.digest k) t = Ms.mac k t := by unfold Ms.mac Ms.keyOf macS; rw [if_pos h]
theorem macS_short (k t : List UInt8) (h : ¬ 64 < k.length) : macS k t = Ms.mac k t := by unfold Ms.mac Ms.keyOf macS; rw [if_neg h]

/-- The inner and the outer text of a mac. -/
theorem inner_eq (key t : ByteArray) (m : UInt8) : bytesOf ((⟨(Ms.mask (bytesOf key) m).toArray⟩ : ByteArray) ++ t) = Ms.mask (bytesOf key) m ++ bytesOf t := by rw [of_append, of_mk]
theorem inner_size (key t : ByteArray) (m : UInt8) (hk : key.size ≤ 64) : ((⟨(Ms.mask (bytesOf key) m).toArray⟩ : ByteArray) ++ t).size = 64 + t.size := by
  have := Ms.mask_length (bytesOf key) m (by rw [of_length]; exact hk)
  rw [ByteArray.size_append, size_mk, this]
theorem mask_size (key : ByteArray) (m : UInt8) (hk : key.size ≤ 64) : (⟨(Ms.mask (bytesOf key) m).toArray⟩ : ByteArray).size = 64 := by
  rw [size_mk, Ms.mask_length (bytesOf key) m (by rw [of_length]; exact hk)]

set_option maxRecDepth 100000 in
set_option maxHeartbeats 800000 in
theorem mac_spec (k t : ByteArray) (w : World) (hk : k.size ≤ 8000) (ht : t.size ≤ 8000) :
    Calls Tryd.prog 80 #[.string k, .string t] w fun e w' => e = .returned (.string ⟨(Ms.mac (bytesOf k) (bytesOf t)).toArray⟩) ∧ Below w.heap.size w w' := by
  by_cases h : 64 < k.size
  · obtain ⟨key, he⟩ : ∃ a : ByteArray, (⟨(Ms.digest (bytesOf k)).toArray⟩ : ByteArray) = a := ⟨_, rfl⟩
    have hd : key.size ≤ 64 := by rw [← he, size_mk, Ms.digest_length]; omega
    have HK : Hid (macS (bytesOf key) (bytesOf t) = Ms.mac (bytesOf k) (bytesOf t)) := by
      unfold Hid; rw [← he, of_mk]; exact macS_long _ _ (by rw [of_length]; exact h)
    have He : Hid ((⟨(Ms.digest (bytesOf k)).toArray⟩ : ByteArray) = key) := he
    clear he
    obtain ⟨a92, h92⟩ : ∃ a : ByteArray, (⟨(Ms.mask (bytesOf key) 92).toArray⟩ : ByteArray) = a := ⟨_, rfl⟩
    obtain ⟨a54, h54⟩ : ∃ a : ByteArray, (⟨(Ms.mask (bytesOf key) 54).toArray⟩ : ByteArray) = a := ⟨_, rfl⟩
    have s92 : a92.size = 64 := by rw [← h92]; exact mask_size key 92 hd
    have s54 : a54.size = 64 := by rw [← h54]; exact mask_size key 54 hd
    obtain ⟨inn, hin⟩ : ∃ a : ByteArray, (⟨(Ms.digest (bytesOf (a54 ++ t))).toArray⟩ : ByteArray) = a := ⟨_, rfl⟩
    have sin : inn.size = 32 := by rw [← hin, size_mk, Ms.digest_length]
    have HF : Hid (Ms.digest (bytesOf (a92 ++ inn)) = Ms.mac (bytesOf k) (bytesOf t)) := by
      unfold Hid
      rw [← HK.out, ← hin, ← h92, ← h54, inner_eq, of_mk, inner_eq]; rfl
    have H92 : Hid ((⟨(Ms.mask (bytesOf key) 92).toArray⟩ : ByteArray) = a92) := h92
    have H54 : Hid ((⟨(Ms.mask (bytesOf key) 54).toArray⟩ : ByteArray) = a54) := h54
    have Hin : Hid ((⟨(Ms.digest (bytesOf (a54 ++ t))).toArray⟩ : ByteArray) = inn) := hin
    clear h92 h54 hin HK
    go_enter Tryd.func80, Tryd.ntmps80
    go_wp2_with fail
    refine (K8.all_spec k _ (by omega)).mono ?_
    rintro e w1 ⟨rfl, hb1⟩
    rw [He.out]
    go_wp2_with fail
    refine (K9.mask_spec key 92 _ hd).mono ?_
    rintro e w2 ⟨rfl, hb2⟩
    rw [H92.out]
    go_wp2_with fail
    refine (K9.mask_spec key 54 _ hd).mono ?_
    rintro e w3 ⟨rfl, hb3⟩
    rw [H54.out]
    have q1 : a54.size + t.size ≤ 9223372036854775807 := by omega
    have q2 : a92.size + inn.size ≤ 9223372036854775807 := by omega
    go_wp2_with fail
    refine (K8.all_spec (a54 ++ t) _ (by rw [ByteArray.size_append]; omega)).mono ?_
    rintro e w4 ⟨rfl, hb4⟩
    rw [Hin.out]
    go_wp2_with fail
    refine (K8.all_spec (a92 ++ inn) _ (by rw [ByteArray.size_append]; omega)).mono ?_
    rintro e w5 ⟨rfl, hb5⟩
    go_wp2
    go_ret
    exact ⟨ret_str HF.out, (((hb1.trans (hb2.mono hb1.size)).trans (hb3.mono (Nat.le_trans hb1.size hb2.size))).trans (hb4.mono (Nat.le_trans hb1.size (Nat.le_trans hb2.size hb3.size)))).trans (hb5.mono (Nat.le_trans hb1.size (Nat.le_trans hb2.size (Nat.le_trans hb3.size hb4.size))))⟩
  · obtain ⟨key, he⟩ : ∃ a : ByteArray, a = k := ⟨_, rfl⟩
    have hd : key.size ≤ 64 := by rw [he]; omega
    have HK : Hid (macS (bytesOf key) (bytesOf t) = Ms.mac (bytesOf k) (bytesOf t)) := by
      unfold Hid; rw [he]; exact macS_short _ _ (by rw [of_length]; exact h)
    subst he
    have hb1 := Below.refl w.heap.size w
    obtain ⟨a92, h92⟩ : ∃ a : ByteArray, (⟨(Ms.mask (bytesOf key) 92).toArray⟩ : ByteArray) = a := ⟨_, rfl⟩
    obtain ⟨a54, h54⟩ : ∃ a : ByteArray, (⟨(Ms.mask (bytesOf key) 54).toArray⟩ : ByteArray) = a := ⟨_, rfl⟩
    have s92 : a92.size = 64 := by rw [← h92]; exact mask_size key 92 hd
    have s54 : a54.size = 64 := by rw [← h54]; exact mask_size key 54 hd
    obtain ⟨inn, hin⟩ : ∃ a : ByteArray, (⟨(Ms.digest (bytesOf (a54 ++ t))).toArray⟩ : ByteArray) = a := ⟨_, rfl⟩
    have sin : inn.size = 32 := by rw [← hin, size_mk, Ms.digest_length]
    have HF : Hid (Ms.digest (bytesOf (a92 ++ inn)) = Ms.mac (bytesOf key) (bytesOf t)) := by
      unfold Hid
      rw [← HK.out, ← hin, ← h92, ← h54, inner_eq, of_mk, inner_eq]; rfl
    have H92 : Hid ((⟨(Ms.mask (bytesOf key) 92).toArray⟩ : ByteArray) = a92) := h92
    have H54 : Hid ((⟨(Ms.mask (bytesOf key) 54).toArray⟩ : ByteArray) = a54) := h54
    have Hin : Hid ((⟨(Ms.digest (bytesOf (a54 ++ t))).toArray⟩ : ByteArray) = inn) := hin
    clear h92 h54 hin HK
    go_enter Tryd.func80, Tryd.ntmps80
    go_wp2_with fail
    refine (K9.mask_spec key 92 _ hd).mono ?_
    rintro e w2 ⟨rfl, hb2⟩
    rw [H92.out]
    go_wp2_with fail
    refine (K9.mask_spec key 54 _ hd).mono ?_
    rintro e w3 ⟨rfl, hb3⟩
    rw [H54.out]
    have q1 : a54.size + t.size ≤ 9223372036854775807 := by omega
    have q2 : a92.size + inn.size ≤ 9223372036854775807 := by omega
    go_wp2_with fail
    refine (K8.all_spec (a54 ++ t) _ (by rw [ByteArray.size_append]; omega)).mono ?_
    rintro e w4 ⟨rfl, hb4⟩
    rw [Hin.out]
    go_wp2_with fail
    refine (K8.all_spec (a92 ++ inn) _ (by rw [ByteArray.size_append]; omega)).mono ?_
    rintro e w5 ⟨rfl, hb5⟩
    go_wp2
    go_ret
    exact ⟨ret_str HF.out, (((hb1.trans (hb2.mono hb1.size)).trans (hb3.mono (Nat.le_trans hb1.size hb2.size))).trans (hb4.mono (Nat.le_trans hb1.size (Nat.le_trans hb2.size hb3.size)))).trans (hb5.mono (Nat.le_trans hb1.size (Nat.le_trans hb2.size (Nat.le_trans hb3.size hb4.size))))⟩

theorem cat_two (a b : ByteArray) : (⟨(C2.cat [a, b]).toArray⟩ : ByteArray) = a ++ b := by
  apply ByteArray.ext
  simp [C2.cat, ByteArray.data_append]

set_option maxRecDepth 100000 in
set_option maxHeartbeats 800000 in
theorem mac_impl0 (k t : ByteArray) (w : World) (hk : k.size ≤ 8000) (ht : t.size ≤ 8000) (hL : Laid w) :
    Calls Tryd.prog 75 #[.string k, .string t] w fun e w' => e = .returned (.string ⟨(Ms.mac (bytesOf k) (bytesOf t)).toArray⟩) ∧ Below w.heap.size w w' := by
  have d1 : decide ((8000 : Int) < (k.size : Int)) = false := by simp; omega
  have d2 : decide ((8000 : Int) < (t.size : Int)) = false := by simp; omega
  by_cases h : 64 < k.size
  · obtain ⟨key, he⟩ : ∃ a : ByteArray, (⟨(Ms.digest (bytesOf k)).toArray⟩ : ByteArray) = a := ⟨_, rfl⟩
    have hd : key.size ≤ 64 := by rw [← he, size_mk, Ms.digest_length]; omega
    have HK : Hid (macS (bytesOf key) (bytesOf t) = Ms.mac (bytesOf k) (bytesOf t)) := by
      unfold Hid; rw [← he, of_mk]; exact macS_long _ _ (by rw [of_length]; exact h)
    have He : Hid ((⟨(Ms.digest (bytesOf k)).toArray⟩ : ByteArray) = key) := he
    clear he
    obtain ⟨a92, h92⟩ : ∃ a : ByteArray, (⟨(Ms.mask (bytesOf key) 92).toArray⟩ : ByteArray) = a := ⟨_, rfl⟩
    obtain ⟨a54, h54⟩ : ∃ a : ByteArray, (⟨(Ms.mask (bytesOf key) 54).toArray⟩ : ByteArray) = a := ⟨_, rfl⟩
    have s92 : a92.size = 64 := by rw [← h92]; exact mask_size key 92 hd
    have s54 : a54.size = 64 := by rw [← h54]; exact mask_size key 54 hd
    obtain ⟨inn, hin⟩ : ∃ a : ByteArray, (⟨(Ms.digest (bytesOf (a54 ++ t))).toArray⟩ : ByteArray) = a := ⟨_, rfl⟩
    have sin : inn.size = 32 := by rw [← hin, size_mk, Ms.digest_length]
    have HF : Hid (Ms.digest (bytesOf (a92 ++ inn)) = Ms.mac (bytesOf k) (bytesOf t)) := by
      unfold Hid
      rw [← HK.out, ← hin, ← h92, ← h54, inner_eq, of_mk, inner_eq]; rfl
    have H92 : Hid ((⟨(Ms.mask (bytesOf key) 92).toArray⟩ : ByteArray) = a92) := h92
    have H54 : Hid ((⟨(Ms.mask (bytesOf key) 54).toArray⟩ : ByteArray) = a54) := h54
    have Hin : Hid ((⟨(Ms.digest (bytesOf (a54 ++ t))).toArray⟩ : ByteArray) = inn) := hin
    clear h92 h54 hin HK
    go_enter Tryd.func75, Tryd.ntmps75
    go_wp2_with fail
    refine (K5.digest_impl k _ (by omega) hL).mono ?_
    rintro e w1 ⟨rfl, hb1⟩
    rw [He.out]
    go_wp2_with fail
    refine (K9.mask_impl key 54 _ hd).mono ?_
    rintro e w2 ⟨rfl, hb2⟩
    rw [H54.out]
    go_wp2_with fail
    refine (C2.joined_any w2.heap.size 0 2 2 [a54, t] _ rfl (by simp) (by omega) (by show a54.size + (t.size + 0) ≤ 1000000; omega) ?_).mono ?_
    · intro j hj
      match j, hj with
      | 0, _ => go_simp
      | 1, _ => go_simp
    rintro e w3 ⟨rfl, hb3⟩
    rw [cat_two]
    have hb3' : Below w2.heap.size w2 w3 := ((Below.refl _ _).alloc (Nat.le_refl _) _).trans (hb3.mono (by rw [Go.Deep.nblk_alloc]; omega))
    have hc3 : Below w.heap.size w w3 := (hb1.trans (hb2.mono hb1.size)).trans (hb3'.mono (Nat.le_trans hb1.size hb2.size))
    clear hb3
    go_wp2_with fail
    refine (K5.digest_impl (a54 ++ t) _ (by rw [ByteArray.size_append]; omega) (hL.below hc3)).mono ?_
    rintro e w4 ⟨rfl, hb4⟩
    rw [Hin.out]
    have hc4 : Below w.heap.size w w4 := hc3.trans (hb4.mono hc3.size)
    go_wp2_with fail
    refine (K9.mask_impl key 92 _ hd).mono ?_
    rintro e w5 ⟨rfl, hb5⟩
    rw [H92.out]
    have hc5 : Below w.heap.size w w5 := hc4.trans (hb5.mono hc4.size)
    go_wp2_with fail
    refine (C2.joined_any w5.heap.size 0 2 2 [a92, inn] _ rfl (by simp) (by omega) (by show a92.size + (inn.size + 0) ≤ 1000000; omega) ?_).mono ?_
    · intro j hj
      match j, hj with
      | 0, _ => go_simp
      | 1, _ => go_simp
    rintro e w6 ⟨rfl, hb6⟩
    rw [cat_two]
    have hc6 : Below w.heap.size w w6 := (hc5.alloc hc5.size _).trans (hb6.mono (by rw [Go.Deep.nblk_alloc]; have := hc5.size; omega))
    clear hb6
    go_wp2_with fail
    refine (K5.digest_impl (a92 ++ inn) _ (by rw [ByteArray.size_append]; omega) (hL.below hc6)).mono ?_
    rintro e w7 ⟨rfl, hb7⟩
    go_wp2
    go_ret
    exact ⟨ret_str HF.out, hc6.trans (hb7.mono hc6.size)⟩
  · obtain ⟨key, he⟩ : ∃ a : ByteArray, a = k := ⟨_, rfl⟩
    have hd : key.size ≤ 64 := by rw [he]; omega
    have HK : Hid (macS (bytesOf key) (bytesOf t) = Ms.mac (bytesOf k) (bytesOf t)) := by
      unfold Hid; rw [he]; exact macS_short _ _ (by rw [of_length]; exact h)
    subst he
    have hb1 := Below.refl w.heap.size w
    obtain ⟨a92, h92⟩ : ∃ a : ByteArray, (⟨(Ms.mask (bytesOf key) 92).toArray⟩ : ByteArray) = a := ⟨_, rfl⟩
    obtain ⟨a54, h54⟩ : ∃ a : ByteArray, (⟨(Ms.mask (bytesOf key) 54).toArray⟩ : ByteArray) = a := ⟨_, rfl⟩
    have s92 : a92.size = 64 := by rw [← h92]; exact mask_size key 92 hd
    have s54 : a54.size = 64 := by rw [← h54]; exact mask_size key 54 hd
    obtain ⟨inn, hin⟩ : ∃ a : ByteArray, (⟨(Ms.digest (bytesOf (a54 ++ t))).toArray⟩ : ByteArray) = a := ⟨_, rfl⟩
    have sin : inn.size = 32 := by rw [← hin, size_mk, Ms.digest_length]
    have HF : Hid (Ms.digest (bytesOf (a92 ++ inn)) = Ms.mac (bytesOf key) (bytesOf t)) := by
      unfold Hid
      rw [← HK.out, ← hin, ← h92, ← h54, inner_eq, of_mk, inner_eq]; rfl
    have H92 : Hid ((⟨(Ms.mask (bytesOf key) 92).toArray⟩ : ByteArray) = a92) := h92
    have H54 : Hid ((⟨(Ms.mask (bytesOf key) 54).toArray⟩ : ByteArray) = a54) := h54
    have Hin : Hid ((⟨(Ms.digest (bytesOf (a54 ++ t))).toArray⟩ : ByteArray) = inn) := hin
    clear h92 h54 hin HK
    go_enter Tryd.func75, Tryd.ntmps75
    go_wp2_with fail
    refine (K9.mask_impl key 54 _ hd).mono ?_
    rintro e w2 ⟨rfl, hb2⟩
    rw [H54.out]
    go_wp2_with fail
    refine (C2.joined_any w2.heap.size 0 2 2 [a54, t] _ rfl (by simp) (by omega) (by show a54.size + (t.size + 0) ≤ 1000000; omega) ?_).mono ?_
    · intro j hj
      match j, hj with
      | 0, _ => go_simp
      | 1, _ => go_simp
    rintro e w3 ⟨rfl, hb3⟩
    rw [cat_two]
    have hb3' : Below w2.heap.size w2 w3 := ((Below.refl _ _).alloc (Nat.le_refl _) _).trans (hb3.mono (by rw [Go.Deep.nblk_alloc]; omega))
    have hc3 : Below w.heap.size w w3 := (hb1.trans (hb2.mono hb1.size)).trans (hb3'.mono (Nat.le_trans hb1.size hb2.size))
    clear hb3
    go_wp2_with fail
    refine (K5.digest_impl (a54 ++ t) _ (by rw [ByteArray.size_append]; omega) (hL.below hc3)).mono ?_
    rintro e w4 ⟨rfl, hb4⟩
    rw [Hin.out]
    have hc4 : Below w.heap.size w w4 := hc3.trans (hb4.mono hc3.size)
    go_wp2_with fail
    refine (K9.mask_impl key 92 _ hd).mono ?_
    rintro e w5 ⟨rfl, hb5⟩
    rw [H92.out]
    have hc5 : Below w.heap.size w w5 := hc4.trans (hb5.mono hc4.size)
    go_wp2_with fail
    refine (C2.joined_any w5.heap.size 0 2 2 [a92, inn] _ rfl (by simp) (by omega) (by show a92.size + (inn.size + 0) ≤ 1000000; omega) ?_).mono ?_
    · intro j hj
      match j, hj with
      | 0, _ => go_simp
      | 1, _ => go_simp
    rintro e w6 ⟨rfl, hb6⟩
    rw [cat_two]
    have hc6 : Below w.heap.size w w6 := (hc5.alloc hc5.size _).trans (hb6.mono (by rw [Go.Deep.nblk_alloc]; have := hc5.size; omega))
    clear hb6
    go_wp2_with fail
    refine (K5.digest_impl (a92 ++ inn) _ (by rw [ByteArray.size_append]; omega) (hL.below hc6)).mono ?_
    rintro e w7 ⟨rfl, hb7⟩
    go_wp2
    go_ret
    exact ⟨ret_str HF.out, hc6.trans (hb7.mono hc6.size)⟩

/-- What Mac answers. -/
def macB (k t : ByteArray) : List UInt8 := if 8000 < k.size ∨ 8000 < t.size then [] else Ms.mac (bytesOf k) (bytesOf t)
theorem macB_no {k t : ByteArray} (h : 8000 < k.size ∨ 8000 < t.size) : macB k t = [] := by simp [macB, h]
theorem macB_yes {k t : ByteArray} (h1 : ¬ 8000 < k.size) (h2 : ¬ 8000 < t.size) : macB k t = Ms.mac (bytesOf k) (bytesOf t) := by unfold macB; rw [if_neg (by omega)]


set_option maxRecDepth 100000 in
theorem macB_impl (k t : ByteArray) (w : World) (hk : k.size ≤ maxLen) (ht : t.size ≤ maxLen) (hL : Laid w) :
    Calls Tryd.prog 75 #[.string k, .string t] w fun e w' => e = .returned (.string ⟨(macB k t).toArray⟩) ∧ Below w.heap.size w w' := by
  unfold maxLen at hk ht
  by_cases h1 : 8000 < k.size
  · rw [macB_no (.inl h1)]
    have d1 : decide ((8000 : Int) < (k.size : Int)) = true := by simp; omega
    go_enter Tryd.func75, Tryd.ntmps75
    go_wp2
    go_ret
    exact ⟨rfl, Below.refl _ _⟩
  have d1 : decide ((8000 : Int) < (k.size : Int)) = false := by simp; omega
  by_cases h2 : 8000 < t.size
  · rw [macB_no (.inr h2)]
    have d2 : decide ((8000 : Int) < (t.size : Int)) = true := by simp; omega
    go_enter Tryd.func75, Tryd.ntmps75
    go_wp2
    go_ret
    exact ⟨rfl, Below.refl _ _⟩
  rw [macB_yes h1 h2]
  exact mac_impl0 k t w (by omega) (by omega) hL

/-- What Stretch answers. -/
def stretchB (p : ByteArray) (r : Int) : List UInt8 := if 8000 < p.size ∨ r < 1 ∨ 100 < r then [] else Ms.stretch (bytesOf p) r.toNat
theorem stretchB_no {p : ByteArray} {r : Int} (h : 8000 < p.size ∨ r < 1 ∨ 100 < r) : stretchB p r = [] := by simp [stretchB, h]
theorem stretchB_yes {p : ByteArray} {r : Int} (h1 : ¬ 8000 < p.size) (h2 : ¬ r < 1) (h3 : ¬ 100 < r) : stretchB p r = Ms.stretch (bytesOf p) r.toNat := by unfold stretchB; rw [if_neg (by omega)]
theorem stretch_len (p : List UInt8) : ∀ n, (Ms.stretch p n).length ≤ 32
  | 0 => by simp [Ms.stretch, Ms.salt]
  | n + 1 => by show (Ms.mac _ _).length ≤ 32; rw [Ms.mac_length]; exact Nat.le_refl _
end Go.Proofs.YteehgicnfageiaaDoor.KA
