/-
  The last link of a log, in the specification and in the program.
-/
import Derived.Test.YtkpjdmmgdmbmnaaDoorI3
namespace Go.Proofs.YtkpjdmmgdmbmnaaDoor.I4
open Go.RowKit
open Go.Proofs.YtkpjdmmgdmbmnaaDoor.C0 Go.Proofs.YtkpjdmmgdmbmnaaDoor.HB
open Go.Proofs.YtkpjdmmgdmbmnaaDoor.A0 Go.Proofs.YtkpjdmmgdmbmnaaDoor.A1 Go.Proofs.YtkpjdmmgdmbmnaaDoor.A2 Go.Proofs.YtkpjdmmgdmbmnaaDoor.A3 Go.Proofs.YtkpjdmmgdmbmnaaDoor.A4 Go.Proofs.YtkpjdmmgdmbmnaaDoor.I1 Go.Proofs.YtkpjdmmgdmbmnaaDoor.I2 Go.Proofs.YtkpjdmmgdmbmnaaDoor.I3
open Go.Proofs.YtkpjdmmgdmbmnaaDoor.K3 (bytesOf)
theorem linkT_size (a : ByteArray) (x : Ln) : (linkT a x).size = 32 := digB_size _
def endR (ls : List Ln) (ks : List ByteArray) : ByteArray := if auditB linkT ls ks = true then (if ks.length = 0 then digB boxT else sAt ks (ks.length - 1)) else ⟨#[]⟩
theorem audit_parts {ls : List Ln} {ks : List ByteArray} (h : auditB linkT ls ks = true) : ls.length ≤ 12 ∧ ks.length = ls.length ∧ upLk linkT ls ks ls.length = true := by
  unfold auditB at h
  obtain ⟨h1, h⟩ := Bool.and_eq_true_iff.1 h
  obtain ⟨h2, h3⟩ := Bool.and_eq_true_iff.1 h
  exact ⟨of_decide_eq_true h1, of_decide_eq_true h2, h3⟩
theorem end_size {ls : List Ln} {ks : List ByteArray} (h : auditB linkT ls ks = true) (h0 : ¬ ks.length = 0) : (sAt ks (ks.length - 1)).size ≤ 32 := by
  obtain ⟨_, h2, h3⟩ := audit_parts h
  have e := last_prev _ h3
  have e2 : lastAt ks ls.length = sAt ks (ks.length - 1) := by unfold lastAt; rw [if_neg (by omega), h2]
  rw [← e2, e]
  exact prev_size _ _
theorem blk2a {w : World} {g : Nat} {a b : Value} {T : TypeId} (h : w.heap[g]? = some (.cells #[a, b] T (0, 0))) : w.cell? ⟨g, 0, none⟩ = some a ∧ w.cell? ⟨g, 1, none⟩ = some b ∧ ∀ o, w.frozen? ⟨g, o, none⟩ = false :=
  ⟨by simp [World.cell?, h], by simp [World.cell?, h], fun o => by simp [World.frozen?, h]⟩
theorem cat1 (a : ByteArray) : (⟨(C2.cat [a]).toArray⟩ : ByteArray) = a := by
  apply ByteArray.ext
  simp [C2.cat]
theorem own1 (w : World) (a : ByteArray) : OT w.heap.size (w.alloc (.cells #[.string a] 9)) (.slice (some ⟨w.heap.size, 0, none⟩) 1 1) [a] :=
  ⟨rfl, .inr ⟨w.heap.size, 1, _, rfl, Nat.le_refl _, heap_alloc_new _ _, Nat.le_refl _, by unfold maxLen; omega, rfl, rfl⟩⟩
theorem rightS (vl vk : Value) (ls : List Ln) (ks : List ByteArray) (w : World) (hv : LRow w vl ls) (hu : SRow w vk ks) (hw : ∀ x ∈ ls, LnW x) :
    Calls Tryd.prog 23 #[.agg #[vl, vk]] w fun e w' => e = .returned (.bool (auditB linkT ls ks)) ∧ Below w.heap.size w w' :=
  A4.audit_spec linkT linkT_size (fun last x vc w hv hx hl hz => A3.link_spec last x vc w hv hx.1 hx.2.1 hx.2.2.1.1 hx.2.2.1.2 hx.2.2.2 hl hz) vl vk ls ks w hv hu hw
set_option maxRecDepth 100000 in
set_option maxHeartbeats 1600000 in
theorem last_spec (vl vk : Value) (ks : List ByteArray) (w : World) (a : Option Addr) (n cap : Nat) (he : vl = .slice a n cap) (hu : SRow w vk ks) :
    Calls Tryd.prog 54 #[.agg #[vl, vk]] w fun e w' => e = .returned (.string (lastAt ks ks.length)) ∧ Below w.heap.size w w' := by
  subst he
  obtain ⟨a2, cap2, rfl, hl2, hc2⟩ := hu
  unfold maxLen at hl2
  have B0 : Hid (Below w.heap.size w (w.alloc (.cells #[.slice a n cap, .slice a2 ks.length cap2] 26))) := albel w _
  by_cases h0 : ks.length = 0
  · have HV : Hid (lastAt ks ks.length = boxT) := by unfold Hid lastAt; rw [if_pos h0]
    have t1 : ((ks.length : Int) == 0) = true := by rw [h0]; rfl
    rw [HV.out]
    clear hc2 h0
    go_enter Tryd.func54, Tryd.ntmps54
    go_wp2
    go_ret
    exact ⟨rfl, B0.out⟩
  · have HV : Hid (lastAt ks ks.length = sAt ks (ks.length - 1)) := by unfold Hid lastAt; rw [if_neg h0]
    have t1 : ((ks.length : Int) == 0) = false := beq_eq_false_iff_ne.2 (by omega)
    obtain ⟨b, off, rfl, hb, hcc⟩ := hc2 (by omega)
    obtain ⟨m, hm⟩ : ∃ m, ks.length = m + 1 := ⟨ks.length - 1, by omega⟩
    have hk := hcc m _ (sAt_get (by omega))
    rw [HV.out, hm, Nat.add_sub_cancel]
    rw [hm] at t1 B0
    have K1 : Hid (∀ y, Below w.heap.size w y → y.cell? ⟨b, off + m, none⟩ = some (.string (sAt ks m))) := fun y hy => (hy.cell (p := ⟨b, off + m, none⟩) hb).trans hk
    have k2 := K1.out _ B0.out
    have hmi : IntKind.i64.wrap (((m + 1 : Nat) : Int) - 1) = (m : Int) := by rw [IntKind.wrap_i64]; omega
    clear hc2 h0 hcc hk K1 HV
    go_enter Tryd.func54, Tryd.ntmps54
    go_wp2
    go_ret
    exact ⟨rfl, B0.out⟩
set_option maxRecDepth 100000 in
set_option maxHeartbeats 1600000 in
theorem end_spec (vl vk : Value) (ls : List Ln) (ks : List ByteArray) (w : World) (hv : LRow w vl ls) (hu : SRow w vk ks) (hw : ∀ x ∈ ls, LnW x) :
    Calls Tryd.prog 19 #[.agg #[vl, vk]] w fun e w' => e = .returned (.string (endR ls ks)) ∧ Below w.heap.size w w' := by
  have HR : Hid (∀ W, Below w.heap.size w W → Calls Tryd.prog 23 #[.agg #[vl, vk]] W fun e w' => e = .returned (.bool (auditB linkT ls ks)) ∧ Below W.heap.size W w') := fun W hW => rightS vl vk ls ks W (hv.below hW) (hu.below hW) hw
  obtain ⟨a, cap, rfl, _, _⟩ := hv
  have hu' := hu
  obtain ⟨a2, cap2, rfl, hl2, _⟩ := hu
  unfold maxLen at hl2
  have HLA : Hid (∀ W, Below w.heap.size w W → Calls Tryd.prog 54 #[.agg #[.slice a ls.length cap, .slice a2 ks.length cap2]] W fun e w' => e = .returned (.string (lastAt ks ks.length)) ∧ Below W.heap.size W w') := fun W hW => last_spec _ _ ks W a _ cap rfl (hu'.below hW)
  have HBX : Hid (∀ W, Calls Tryd.prog 53 #[.string boxT] W fun e w' => e = .returned (.string (digB boxT)) ∧ Below W.heap.size W w') := fun W => K8.all_spec boxT W (by decide)
  have KC : Hid _ := heap_alloc_new w (.cells #[.slice a ls.length cap, .slice a2 ks.length cap2] 26)
  have HD : Hid (endR ls ks = if auditB linkT ls ks = true then (if ks.length = 0 then digB boxT else sAt ks (ks.length - 1)) else ⟨#[]⟩) := rfl
  clear hu' hw
  cases hb : auditB linkT ls ks with
  | false =>
    have HV : Hid (endR ls ks = ⟨#[]⟩) := by unfold Hid; rw [HD.out, hb]; rfl
    rw [HV.out]
    rw [hb] at HR
    clear HD HV HLA HBX KC
    go_enter Tryd.func19, Tryd.ntmps19
    go_wp2_with fail
    refine (HR.out _ (albel w _)).mono ?_
    rintro e w1 ⟨rfl, hb1⟩
    have HB : Hid (Below w.heap.size w w1) := bel2 (albel w _) hb1
    clear hb1
    go_wp2
    go_ret
    exact ⟨rfl, HB.out⟩
  | true =>
    rw [hb] at HR
    by_cases h0 : ks.length = 0
    · have HV : Hid (endR ls ks = digB boxT) := by unfold Hid; rw [HD.out, hb, if_pos rfl, if_pos h0]
      have t1 : ((ks.length : Int) == 0) = true := by rw [h0]; rfl
      rw [HV.out]
      clear HD HV HLA hb h0
      go_enter Tryd.func19, Tryd.ntmps19
      go_wp2_with fail
      refine (HR.out _ (albel w _)).mono ?_
      rintro e w1 ⟨rfl, hb1⟩
      have HB : Hid (Below w.heap.size w w1) := bel2 (albel w _) hb1
      obtain ⟨c0, c1, cf⟩ := blk2a (carry KC.out hb1)
      clear hb1
      go_wp2_with fail
      refine (HBX.out _).mono ?_
      rintro e w2 ⟨rfl, hb2⟩
      have HB2 : Hid (Below w.heap.size w w2) := bel2 HB.out hb2
      clear hb2
      go_wp2
      go_ret
      exact ⟨rfl, HB2.out⟩
    · have HV : Hid (endR ls ks = lastAt ks ks.length) := by unfold Hid lastAt; rw [HD.out, hb, if_pos rfl, if_neg h0, if_neg h0]
      have t1 : ((ks.length : Int) == 0) = false := beq_eq_false_iff_ne.2 (by omega)
      rw [HV.out]
      clear HD HV HBX hb h0
      generalize lastAt ks ks.length = r at *
      go_enter Tryd.func19, Tryd.ntmps19
      go_wp2_with fail
      refine (HR.out _ (albel w _)).mono ?_
      rintro e w1 ⟨rfl, hb1⟩
      have HB : Hid (Below w.heap.size w w1) := bel2 (albel w _) hb1
      obtain ⟨c0, c1, cf⟩ := blk2a (carry KC.out hb1)
      clear hb1
      go_wp2_with fail
      refine (HLA.out _ HB.out).mono ?_
      rintro e w2 ⟨rfl, hb2⟩
      have HB2 : Hid (Below w.heap.size w w2) := bel2 HB.out hb2
      clear hb2
      go_wp2
      go_ret
      exact ⟨rfl, HB2.out⟩
theorem join1 (a : ByteArray) (w : World) (h : a.size ≤ 1000000) :
    Calls Tryd.prog 50 #[.slice (some ⟨w.heap.size, 0, none⟩) 1 1] (w.alloc (.cells #[.string a] 9)) fun e w' => e = .returned (.string a) ∧ Below w.heap.size w w' := by
  have ho := own1 w a
  refine (C2.joined_any w.heap.size 0 1 1 [a] _ rfl (by simp) (by omega) (by simp only [C2.total]; omega) (fun j hj => ho.cells.2 j hj)).mono ?_
  rintro x w' ⟨rfl, hb⟩
  exact ⟨by rw [cat1], bel2 (albel _ _) hb⟩
set_option maxRecDepth 100000 in
set_option maxHeartbeats 1600000 in
theorem end_impl (vl vk : Value) (ls : List Ln) (ks : List ByteArray) (w : World) (hL : K2.Laid w) (hv : LRow w vl ls) (hu : SRow w vk ks) (hw : ∀ x ∈ ls, LnW x) :
    Calls Tryd.prog 18 #[.agg #[vl, vk]] w fun e w' => e = .returned (.string (endR ls ks)) ∧ Below w.heap.size w w' := by
  have HR : Hid (∀ W, Below w.heap.size w W → Calls Tryd.prog 22 #[.agg #[vl, vk]] W fun e w' => e = .returned (.bool (auditB linkT ls ks)) ∧ Below W.heap.size W w') := fun W hW => I3.right_impl vl vk ls ks W (hL.below hW) (hv.below hW) (hu.below hW) hw
  obtain ⟨a, cap, rfl, _, _⟩ := hv
  obtain ⟨a2, cap2, rfl, hl2, hc2⟩ := hu
  unfold maxLen at hl2
  have HBX : Hid (∀ W, Below w.heap.size w W → Calls Tryd.prog 52 #[.string boxT] W fun e w' => e = .returned (.string (digB boxT)) ∧ Below W.heap.size W w') := fun W hW => KD.digest_impl boxT W (by decide) (hL.below hW)
  have KC : Hid _ := heap_alloc_new w (.cells #[.slice a ls.length cap, .slice a2 ks.length cap2] 26)
  have HD : Hid (endR ls ks = if auditB linkT ls ks = true then (if ks.length = 0 then digB boxT else sAt ks (ks.length - 1)) else ⟨#[]⟩) := rfl
  clear hw hL
  cases hb : auditB linkT ls ks with
  | false =>
    have HV : Hid (endR ls ks = ⟨#[]⟩) := by unfold Hid; rw [HD.out, hb]; rfl
    rw [HV.out]
    rw [hb] at HR
    clear HD HV HBX KC hc2
    go_enter Tryd.func18, Tryd.ntmps18
    go_wp2_with fail
    refine (HR.out _ (albel w _)).mono ?_
    rintro e w1 ⟨rfl, hb1⟩
    have HB : Hid (Below w.heap.size w w1) := bel2 (albel w _) hb1
    clear hb1
    go_wp2
    go_ret
    exact ⟨rfl, HB.out⟩
  | true =>
    rw [hb] at HR
    by_cases h0 : ks.length = 0
    · have HV : Hid (endR ls ks = digB boxT) := by unfold Hid; rw [HD.out, hb, if_pos rfl, if_pos h0]
      have t1 : ((ks.length : Int) == 0) = true := by rw [h0]; rfl
      rw [HV.out]
      clear HD HV hc2 hb h0
      go_enter Tryd.func18, Tryd.ntmps18
      go_wp2_with fail
      refine (HR.out _ (albel w _)).mono ?_
      rintro e w1 ⟨rfl, hb1⟩
      have HB : Hid (Below w.heap.size w w1) := bel2 (albel w _) hb1
      obtain ⟨c0, c1, cf⟩ := blk2a (carry KC.out hb1)
      clear hb1
      go_wp2_with fail
      refine (HBX.out _ HB.out).mono ?_
      rintro e w2 ⟨rfl, hb2⟩
      have HB2 : Hid (Below w.heap.size w w2) := bel2 HB.out hb2
      clear hb2
      go_wp2
      go_ret
      exact ⟨rfl, HB2.out⟩
    · have hsz := end_size hb h0
      have HV : Hid (endR ls ks = sAt ks (ks.length - 1)) := by unfold Hid; rw [HD.out, hb, if_pos rfl, if_neg h0]
      have t1 : ((ks.length : Int) == 0) = false := beq_eq_false_iff_ne.2 (by omega)
      obtain ⟨b, off, rfl, hbb, hcc⟩ := hc2 (by omega)
      obtain ⟨m, hm⟩ : ∃ m, ks.length = m + 1 := ⟨ks.length - 1, by omega⟩
      have hk := hcc m _ (sAt_get (by omega))
      rw [HV.out, hm, Nat.add_sub_cancel]
      rw [hm, Nat.add_sub_cancel] at hsz
      rw [hm] at t1 KC HR
      have K1 : Hid (∀ y, Below w.heap.size w y → y.cell? ⟨b, off + m, none⟩ = some (.string (sAt ks m))) := fun y hy => (hy.cell (p := ⟨b, off + m, none⟩) hbb).trans hk
      have hmi : IntKind.i64.wrap (((m + 1 : Nat) : Int) - 1) = (m : Int) := by rw [IntKind.wrap_i64]; omega
      generalize sAt ks m = r at *
      have HJ : Hid (∀ W : World, Calls Tryd.prog 50 #[.slice (some ⟨W.heap.size, 0, none⟩) 1 1] (W.alloc (.cells #[.string r] 9)) fun e w' => e = .returned (.string r) ∧ Below W.heap.size W w') := fun W => join1 r W (by omega)
      clear hc2 hcc hk HV HD hb h0 HBX hsz hbb
      go_enter Tryd.func18, Tryd.ntmps18
      go_wp2_with fail
      refine (HR.out _ (albel w _)).mono ?_
      rintro e w1 ⟨rfl, hb1⟩
      have HB : Hid (Below w.heap.size w w1) := bel2 (albel w _) hb1
      obtain ⟨c0, c1, cf⟩ := blk2a (carry KC.out hb1)
      have k2 := K1.out _ HB.out
      clear hb1 K1
      go_wp2_with fail
      refine (HJ.out _).mono ?_
      rintro e w2 ⟨rfl, hb2⟩
      have HB2 : Hid (Below w.heap.size w w2) := bel2 HB.out hb2
      clear hb2
      go_wp2
      go_ret
      exact ⟨rfl, HB2.out⟩
end Go.Proofs.YtkpjdmmgdmbmnaaDoor.I4
