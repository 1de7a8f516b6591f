/-
  The walk of the law on macs.
-/
import Derived.Test.YthnnpiijjdoflaaDoorD5
import Derived.Test.YthnnpiijjdoflaaDoorKB
import Derived.Laws.Concat
namespace Go.Proofs.YthnnpiijjdoflaaDoor.YMac
open Go.RowKit
open Go.Proofs.YthnnpiijjdoflaaDoor.C0
open Go.Proofs.YthnnpiijjdoflaaDoor.D0
open Go.Proofs.YthnnpiijjdoflaaDoor.KA
open Go.Proofs.YthnnpiijjdoflaaDoor.K3 (bytesOf)

theorem digestB_small {s : ByteArray} (h : s.size ≤ 8000) : digestB s = Ms.digest (bytesOf s) := by unfold digestB; rw [if_neg (by omega)]
theorem macB_small {k t : ByteArray} (h1 : k.size ≤ 8000) (h2 : t.size ≤ 8000) : macB k t = Ms.mac (bytesOf k) (bytesOf t) := macB_yes (by omega) (by omega)
theorem digestB_len (s : ByteArray) : (digestB s).length ≤ 32 := by
  unfold digestB; split
  · simp
  · rw [Ms.digest_length]; exact Nat.le_refl _
theorem stretchB_len (p : ByteArray) (r : Int) : (stretchB p r).length ≤ 32 := by
  unfold stretchB; split
  · simp
  · exact stretch_len _ _
/-- Once more is the mac of what it was. -/
theorem stretch_next {p : ByteArray} {r : Int} (hp : p.size ≤ 8000) (h1 : 1 ≤ r) (h2 : r ≤ 99) : stretchB p (r + 1) = macB p ⟨(stretchB p r).toArray⟩ := by
  have hl := stretchB_len p r
  rw [macB_small hp (by rw [size_mk]; omega), of_mk, stretchB_yes (by omega) (by omega) (by omega), stretchB_yes (by omega) (by omega) (by omega)]
  rw [show (r + 1).toNat = r.toNat + 1 by omega]; rfl

set_option maxRecDepth 100000 in
set_option maxHeartbeats 1600000 in
theorem walk (a0 a1 : Option Addr) (n0 n1 c0 c1 : Nat) (w : World) (hL : K2.Laid w) (h0 : IsCode w.heap.size w (.slice a0 n0 c0) n0) (h1 : IsCode w.heap.size w (.slice a1 n1 c1) n1) :
    Calls Tryd.prog 3 #[.slice a0 n0 c0, .slice a1 n1 c1] w fun e w' => e = .returned (.bool true) ∧ Below w.heap.size w w' := by
  have m0 := h0.1
  have m1 := h1.1
  by_cases g0 : 1048576 < n0
  · have d0 : decide ((1048576 : Int) < (n0 : Int)) = true := by simp; omega
    go_enter Tryd.func3, Tryd.ntmps3
    go_wp2
    go_ret
    exact ⟨rfl, Below.refl _ _⟩
  have d0 : decide ((1048576 : Int) < (n0 : Int)) = false := by simp; omega
  by_cases g1 : 1048576 < n1
  · go_enter Tryd.func3, Tryd.ntmps3
    go_wp2
    go_ret
    exact ⟨rfl, Below.refl _ _⟩
  have d1 : decide ((1048576 : Int) < (n1 : Int)) = false := by simp; omega
  go_enter Tryd.func3, Tryd.ntmps3
  go_wp2_with fail
  refine (D5.mac_any _ n0 _ h0).mono ?_
  rintro e w1 ⟨key, t, rfl, hks, hts, hb1⟩
  have dt : decide ((t.size : Int) ≤ 7936) = true := by simp; omega
  by_cases hk : key.size ≤ 64
  · have dk : decide ((key.size : Int) ≤ 64) = true := by simp; omega
    obtain ⟨a92, h92⟩ : ∃ a : ByteArray, (⟨(Ms.mask (bytesOf key) 92).toArray⟩ : ByteArray) = a := ⟨_, rfl⟩
    obtain ⟨a54, h54⟩ : ∃ a : ByteArray, (⟨(Ms.mask (bytesOf key) 54).toArray⟩ : ByteArray) = a := ⟨_, rfl⟩
    have s92 : a92.size = 64 := by rw [← h92]; exact mask_size key 92 hk
    have s54 : a54.size = 64 := by rw [← h54]; exact mask_size key 54 hk
    obtain ⟨inn, hin⟩ : ∃ a : ByteArray, (⟨(digestB (a54 ++ t)).toArray⟩ : ByteArray) = a := ⟨_, rfl⟩
    have hin0 : digestB (a54 ++ t) = Ms.digest (bytesOf (a54 ++ t)) := digestB_small (by rw [ByteArray.size_append]; omega)
    have sin : inn.size = 32 := by rw [← hin, size_mk, hin0, Ms.digest_length]
    have HF : Hid (digestB (a92 ++ inn) = macB key t) := by
      unfold Hid
      rw [digestB_small (by rw [ByteArray.size_append]; omega), macB_small (by omega) (by omega), ← macS_short _ _ (by rw [of_length]; omega), ← hin, hin0, ← h92, ← h54, inner_eq, of_mk, inner_eq]; rfl
    have H92 : Hid ((⟨(Ms.mask (bytesOf key) 92).toArray⟩ : ByteArray) = a92) := h92
    have H54 : Hid ((⟨(Ms.mask (bytesOf key) 54).toArray⟩ : ByteArray) = a54) := h54
    have Hin : Hid ((⟨(digestB (a54 ++ t)).toArray⟩ : ByteArray) = inn) := hin
    clear h92 h54 hin hin0
    have q1 : a54.size + t.size ≤ 9223372036854775807 := by omega
    have q2 : a92.size + inn.size ≤ 9223372036854775807 := by omega
    go_wp2_with fail
    refine (K9.mask_law key 54 _ hk).mono ?_
    rintro e w2 ⟨rfl, hb2⟩
    rw [H54.out]
    have hc2 : Below w.heap.size w w2 := hb1.trans (hb2.mono hb1.size)
    go_wp2_with fail
    refine (digest_impl (a54 ++ t) _ (by unfold maxLen; rw [ByteArray.size_append]; omega) (hL.below hc2)).mono ?_
    rintro e w3 ⟨rfl, hb3⟩
    rw [Hin.out]
    have hc3 : Below w.heap.size w w3 := hc2.trans (hb3.mono hc2.size)
    go_wp2_with fail
    refine (macB_impl key t _ (by unfold maxLen; omega) (by unfold maxLen; omega) (hL.below hc3)).mono ?_
    rintro e w4 ⟨rfl, hb4⟩
    have hc4 : Below w.heap.size w w4 := hc3.trans (hb4.mono hc3.size)
    go_wp2_with fail
    refine (K9.mask_law key 92 _ hk).mono ?_
    rintro e w5 ⟨rfl, hb5⟩
    rw [H92.out]
    have hc5 : Below w.heap.size w w5 := hc4.trans (hb5.mono hc4.size)
    go_wp2_with fail
    refine (digest_impl (a92 ++ inn) _ (by unfold maxLen; rw [ByteArray.size_append]; omega) (hL.below hc5)).mono ?_
    rintro e w6 ⟨rfl, hb6⟩
    rw [HF.out]
    have hc6 : Below w.heap.size w w6 := hc5.trans (hb6.mono hc5.size)
    clear hb1 hb2 hb3 hb4 hb5 hb6 hc2 hc3 hc4 hc5 H92 H54 Hin HF
    generalize macB key t = mac at *
    obtain ⟨wc, hwc⟩ : ∃ x : World, x = w6 := ⟨_, rfl⟩
    subst hwc
    have hc := hc6
    have hcs := hc.size
    have h1c : IsCode w.heap.size wc (.slice a1 n1 c1) n1 := h1.below hc (Nat.le_refl _)
    go_wp2_with fail
    refine (D5.digest_any _ n1 _ (h1c.up hcs)).mono ?_
    rintro e w7 ⟨u, rfl, hus, hb7⟩
    have hc7 : Below w.heap.size w w7 := hc.trans (hb7.mono hcs)
    have h1d : IsCode w.heap.size w7 (.slice a1 n1 c1) n1 := h1.below hc7 (Nat.le_refl _)
    go_wp2_with fail
    refine (D5.stretch_any _ n1 _ (h1d.up hc7.size)).mono ?_
    rintro e w8 ⟨pass, z, rfl, hps, hz1, hz2, hb8⟩
    have hc8 : Below w.heap.size w w8 := hc7.trans (hb8.mono hc7.size)
    have hpm : pass.size ≤ maxLen := by unfold maxLen; omega
    go_wp2_with fail
    refine (digest_impl u _ (by unfold maxLen; omega) (hL.below hc8)).mono ?_
    rintro e w9 ⟨rfl, hb9⟩
    have hc9 : Below w.heap.size w w9 := hc8.trans (hb9.mono hc8.size)
    go_wp2_with fail
    refine (digest_spec u _ (by unfold maxLen; omega)).mono ?_
    rintro e wa ⟨rfl, hba⟩
    have hca : Below w.heap.size w wa := hc9.trans (hba.mono hc9.size)
    clear hb7 hc7 h1d hb8 hc8 hb9 hc9 hba h1c hcs hc
    generalize digestB u = du at *
    go_wp2_with fail
    refine (KB.stretch_impl pass z _ hpm hz1 hz2 (hL.below hca)).mono ?_
    rintro e wb ⟨rfl, hbb⟩
    have hcb : Below w.heap.size w wb := hca.trans (hbb.mono hca.size)
    go_wp2_with fail
    refine (KB.stretch_spec pass z _ hpm hz1 hz2).mono ?_
    rintro e wd ⟨rfl, hbd⟩
    have hcd : Below w.heap.size w wd := hcb.trans (hbd.mono hcb.size)
    clear hbb hcb hbd hca
    by_cases k1 : z < 1
    · have e1 : decide (z < 1) = true := by simp; omega
      go_wp2
      go_ret
      exact ⟨rfl, hcd⟩
    have e1 : decide (z < 1) = false := by simp; omega
    by_cases k2 : 99 < z
    · have e2 : decide (99 < z) = true := by simp; omega
      go_wp2
      go_ret
      exact ⟨rfl, hcd⟩
    have e2 : decide (99 < z) = false := by simp; omega
    have HX : Hid (stretchB pass (z + 1) = macB pass ⟨(stretchB pass z).toArray⟩) := stretch_next (by omega) (by omega) (by omega)
    have hsl := stretchB_len pass z
    have hsz : (⟨(stretchB pass z).toArray⟩ : ByteArray).size ≤ maxLen := by rw [size_mk]; unfold maxLen; omega
    go_wp2_with fail
    refine (KB.stretch_impl pass (z + 1) _ hpm (by omega) (by omega) (hL.below hcd)).mono ?_
    rintro e we ⟨rfl, hbe⟩
    have hce : Below w.heap.size w we := hcd.trans (hbe.mono hcd.size)
    rw [HX.out]
    go_wp2_with fail
    refine (KB.stretch_impl pass z _ hpm hz1 hz2 (hL.below hce)).mono ?_
    rintro e wf ⟨rfl, hbf⟩
    have hcf : Below w.heap.size w wf := hce.trans (hbf.mono hce.size)
    go_wp2_with fail
    refine (macB_impl pass ⟨(stretchB pass z).toArray⟩ _ hpm hsz (hL.below hcf)).mono ?_
    rintro e wg ⟨rfl, hbg⟩
    have hcg : Below w.heap.size w wg := hcf.trans (hbg.mono hcf.size)
    clear hbe hbf hbg hce hcf hcd HX
    go_wp2
    go_ret
    exact ⟨rfl, hcg⟩
  · have dk : decide ((key.size : Int) ≤ 64) = false := by simp; omega
    obtain ⟨wc, hwc⟩ : ∃ x : World, x = w1 := ⟨_, rfl⟩
    subst hwc
    have hc := hb1
    have hcs := hc.size
    have h1c : IsCode w.heap.size wc (.slice a1 n1 c1) n1 := h1.below hc (Nat.le_refl _)
    go_wp2_with fail
    refine (D5.digest_any _ n1 _ (h1c.up hcs)).mono ?_
    rintro e w7 ⟨u, rfl, hus, hb7⟩
    have hc7 : Below w.heap.size w w7 := hc.trans (hb7.mono hcs)
    have h1d : IsCode w.heap.size w7 (.slice a1 n1 c1) n1 := h1.below hc7 (Nat.le_refl _)
    go_wp2_with fail
    refine (D5.stretch_any _ n1 _ (h1d.up hc7.size)).mono ?_
    rintro e w8 ⟨pass, z, rfl, hps, hz1, hz2, hb8⟩
    have hc8 : Below w.heap.size w w8 := hc7.trans (hb8.mono hc7.size)
    have hpm : pass.size ≤ maxLen := by unfold maxLen; omega
    go_wp2_with fail
    refine (digest_impl u _ (by unfold maxLen; omega) (hL.below hc8)).mono ?_
    rintro e w9 ⟨rfl, hb9⟩
    have hc9 : Below w.heap.size w w9 := hc8.trans (hb9.mono hc8.size)
    go_wp2_with fail
    refine (digest_spec u _ (by unfold maxLen; omega)).mono ?_
    rintro e wa ⟨rfl, hba⟩
    have hca : Below w.heap.size w wa := hc9.trans (hba.mono hc9.size)
    clear hb7 hc7 h1d hb8 hc8 hb9 hc9 hba h1c hcs hc
    generalize digestB u = du at *
    go_wp2_with fail
    refine (KB.stretch_impl pass z _ hpm hz1 hz2 (hL.below hca)).mono ?_
    rintro e wb ⟨rfl, hbb⟩
    have hcb : Below w.heap.size w wb := hca.trans (hbb.mono hca.size)
    go_wp2_with fail
    refine (KB.stretch_spec pass z _ hpm hz1 hz2).mono ?_
    rintro e wd ⟨rfl, hbd⟩
    have hcd : Below w.heap.size w wd := hcb.trans (hbd.mono hcb.size)
    clear hbb hcb hbd hca
    by_cases k1 : z < 1
    · have e1 : decide (z < 1) = true := by simp; omega
      go_wp2
      go_ret
      exact ⟨rfl, hcd⟩
    have e1 : decide (z < 1) = false := by simp; omega
    by_cases k2 : 99 < z
    · have e2 : decide (99 < z) = true := by simp; omega
      go_wp2
      go_ret
      exact ⟨rfl, hcd⟩
    have e2 : decide (99 < z) = false := by simp; omega
    have HX : Hid (stretchB pass (z + 1) = macB pass ⟨(stretchB pass z).toArray⟩) := stretch_next (by omega) (by omega) (by omega)
    have hsl := stretchB_len pass z
    have hsz : (⟨(stretchB pass z).toArray⟩ : ByteArray).size ≤ maxLen := by rw [size_mk]; unfold maxLen; omega
    go_wp2_with fail
    refine (KB.stretch_impl pass (z + 1) _ hpm (by omega) (by omega) (hL.below hcd)).mono ?_
    rintro e we ⟨rfl, hbe⟩
    have hce : Below w.heap.size w we := hcd.trans (hbe.mono hcd.size)
    rw [HX.out]
    go_wp2_with fail
    refine (KB.stretch_impl pass z _ hpm hz1 hz2 (hL.below hce)).mono ?_
    rintro e wf ⟨rfl, hbf⟩
    have hcf : Below w.heap.size w wf := hce.trans (hbf.mono hce.size)
    go_wp2_with fail
    refine (macB_impl pass ⟨(stretchB pass z).toArray⟩ _ hpm hsz (hL.below hcf)).mono ?_
    rintro e wg ⟨rfl, hbg⟩
    have hcg : Below w.heap.size w wg := hcf.trans (hbg.mono hcf.size)
    clear hbe hbf hbg hce hcf hcd HX
    go_wp2
    go_ret
    exact ⟨rfl, hcg⟩
end Go.Proofs.YthnnpiijjdoflaaDoor.YMac
