/-
  What is joined of whatever shares: in the specification.
-/
import Derived.Test.YtianmmonkllhpaaDoorJ2
import Derived.Test.YtianmmonkllhpaaDoorL2
namespace Go.Proofs.YtianmmonkllhpaaDoor.J5
open Go.RowKit
open Go.Proofs.YtianmmonkllhpaaDoor.C0 Go.Proofs.YtianmmonkllhpaaDoor.HB
open Go.Proofs.YtianmmonkllhpaaDoor.SH (Sh Shares)
open Go.Proofs.YtianmmonkllhpaaDoor.J1 (shareR yes2 no2)
open Go.Proofs.YtianmmonkllhpaaDoor.J2 (ix dat xsOf wt joinL Fine)
open Go.Proofs.YtianmmonkllhpaaDoor.J4 (at_ formOk newAt okUp fineB okUp_no at_get)
open Go.Proofs.YtianmmonkllhpaaDoor.L2 (mayR)

/-- What is joined, of whatever shares. -/
def joinR (need : Int) (l : List Sh) : List UInt8 := if mayR need l = true then joinL need.toNat (at_ l 0).2.size l else []
theorem okUp_all {l : List Sh} {m k : Nat} (h : okUp l m = true) (hk : k < m) : formOk l k = true := by
  cases hf : formOk l k with
  | true => rfl
  | false => rw [okUp_no (.inl hf) m hk] at h; cases h
theorem fine_of {need : Int} {l : List Sh} (h : fineB need l = true) : ∃ m : Nat, need = m ∧ Fine m (at_ l 0).2.size l := by
  obtain ⟨h1, h2⟩ := Bool.and_eq_true_iff.1 h
  obtain ⟨h2, h3⟩ := Bool.and_eq_true_iff.1 h2
  have h1 := of_decide_eq_true h1
  have h2 := of_decide_eq_true h2
  obtain ⟨m, rfl⟩ := Int.eq_ofNat_of_zero_le (show 0 ≤ need by omega)
  have each : ∀ k, k < l.length → 1 ≤ (at_ l k).1 ∧ (at_ l k).1 ≤ 6 ∧ 1 ≤ (at_ l k).2.size ∧ (at_ l k).2.size ≤ 16 ∧ (at_ l k).2.size = (at_ l 0).2.size := fun k hk => by
    obtain ⟨q1, q2⟩ := Bool.and_eq_true_iff.1 (okUp_all h3 hk)
    have q1 := of_decide_eq_true q1
    exact ⟨q1.1, q1.2.1, q1.2.2.1, q1.2.2.2, by simpa using q2⟩
  have e0 := each 0 (by omega)
  refine ⟨m, rfl, by omega, by omega, by omega, by omega, by omega, fun p hp => ?_⟩
  obtain ⟨k, hk, rfl⟩ := List.getElem_of_mem hp
  have e := each k hk
  have g : at_ l k = l[k] := by unfold at_; simp [hk]
  rw [g] at e
  exact ⟨e.1, e.2.1, e.2.2.2.2⟩
theorem mayR_fine {need : Int} {l : List Sh} (h : mayR need l = true) : l.length ≤ 400 ∧ ∃ m : Nat, need = m ∧ Fine m (at_ l 0).2.size l := by
  obtain ⟨h1, h2⟩ := Bool.and_eq_true_iff.1 h
  exact ⟨of_decide_eq_true h1, fine_of h2⟩

set_option maxRecDepth 100000 in
theorem join_any (need : Int) (v : Value) (l : List Sh) (w : World) (hv : Shares w v l) (hz : ∀ s ∈ l, s.2.size ≤ maxLen) :
    Calls Tryd.prog 14 #[.int .i64 need, v] w fun e w' => e = .returned (.string ⟨(joinR need l).toArray⟩) ∧ Below w.heap.size w w' := by
  have hv0 := hv
  obtain ⟨a, cap, rfl, hl, hc⟩ := hv
  by_cases h4 : l.length ≤ 400
  · have h4b : ¬ (400 : Int) < (l.length : Int) := by omega
    have HR : Hid (mayR need l = fineB need l) := by unfold Hid mayR; rw [decide_eq_true h4]; rfl
    have HD : Hid (joinR need l = if mayR need l = true then joinL need.toNat (at_ l 0).2.size l else []) := rfl
    cases hfn : fineB need l with
    | true =>
      obtain ⟨m, rfl, hf⟩ := fine_of hfn
      go_enter Tryd.func14, Tryd.ntmps14
      go_wp2_with fail
      refine (J4.fine_spec _ _ l _ hv0 hz).mono ?_
      rintro e w1 ⟨rfl, hb1⟩
      rw [hfn]
      go_wp2_with fail
      refine (J2.join_spec m _ _ l _ (hv0.below hb1) hf).mono ?_
      rintro e w2 ⟨rfl, hb2⟩
      have HB : Hid (Below w.heap.size w w2) := bel2 hb1 hb2
      have HE : Hid (joinL m (at_ l 0).2.size l = joinR m l) := by
        unfold Hid; rw [HD.out, HR.out, hfn, if_pos rfl]; rfl
      rw [HE.out]
      clear hb1 hb2 HE HD HR hc
      go_wp2
      go_ret
      exact ⟨rfl, HB.out⟩
    | false =>
      have HE : Hid (joinR need l = []) := by unfold Hid; rw [HD.out, HR.out, hfn]; rfl
      rw [HE.out]
      go_enter Tryd.func14, Tryd.ntmps14
      go_wp2_with fail
      refine (J4.fine_spec _ _ l _ hv0 hz).mono ?_
      rintro e w1 ⟨rfl, hb1⟩
      rw [hfn]
      go_wp2
      go_ret
      exact ⟨rfl, hb1⟩
  · have h4b : (400 : Int) < (l.length : Int) := by omega
    have HE : Hid (joinR need l = []) := by unfold Hid joinR mayR; rw [decide_eq_false h4]; rfl
    rw [HE.out]
    go_enter Tryd.func14, Tryd.ntmps14
    go_wp2
    go_ret
    exact ⟨rfl, Below.refl _ _⟩
end Go.Proofs.YtianmmonkllhpaaDoor.J5
