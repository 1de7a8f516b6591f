/-
  Rows of lines and of texts, and whether a log is right, as the specification says it (given its links).
-/
import Derived.Test.YtkpjdmmgdmbmnaaDoorA2
import Derived.Deep.DeepCutAuto
namespace Go.Proofs.YtkpjdmmgdmbmnaaDoor.A4
open Go.RowKit
open Go.Proofs.YtkpjdmmgdmbmnaaDoor.C0 Go.Proofs.YtkpjdmmgdmbmnaaDoor.HB
open Go.Proofs.YtkpjdmmgdmbmnaaDoor.A0 Go.Proofs.YtkpjdmmgdmbmnaaDoor.A1 Go.Proofs.YtkpjdmmgdmbmnaaDoor.A2
open Go.Proofs.YtkpjdmmgdmbmnaaDoor.C4 (nameB)
/-- A line whose parts are of their kinds. -/
def LnW (x : Ln) : Prop := x.name.size ≤ maxLen ∧ x.sum.size ≤ maxLen ∧ (-9223372036854775808 ≤ x.kind ∧ x.kind ≤ 9223372036854775807) ∧ ∀ c ∈ x.cards, -9223372036854775808 ≤ c ∧ c ≤ 9223372036854775807
def lnZ : Ln := ⟨0, ⟨#[]⟩, ⟨#[]⟩, []⟩
/-- A slice of texts that reads as l. -/
def SRow (w : World) (v : Value) (l : List ByteArray) : Prop :=
  ∃ (a : Option Addr) (cap : Nat), v = .slice a l.length cap ∧ l.length ≤ maxLen ∧
    (0 < l.length → ∃ b off, a = some ⟨b, off, none⟩ ∧ b < w.heap.size ∧ ∀ i s, l[i]? = some s → w.cell? ⟨b, off + i, none⟩ = some (.string s))
/-- A slice of lines that reads as l. -/
def LRow (w : World) (v : Value) (l : List Ln) : Prop :=
  ∃ (a : Option Addr) (cap : Nat), v = .slice a l.length cap ∧ l.length ≤ maxLen ∧
    (0 < l.length → ∃ b off, a = some ⟨b, off, none⟩ ∧ b < w.heap.size ∧ ∀ i x, l[i]? = some x → ∃ vc, IRow w vc x.cards ∧
      w.cell? ⟨b, off + i * 4, none⟩ = some (.int .i64 x.kind) ∧ w.cell? ⟨b, off + i * 4 + 1, none⟩ = some (.string x.name) ∧ w.cell? ⟨b, off + i * 4 + 2, none⟩ = some (.string x.sum) ∧ w.cell? ⟨b, off + i * 4 + 3, none⟩ = some vc)
theorem SRow.below {w w' : World} {v : Value} {l : List ByteArray} (h : SRow w v l) (hb : Below w.heap.size w w') : SRow w' v l := by
  obtain ⟨a, cap, rfl, hl, hc⟩ := h
  refine ⟨a, cap, rfl, hl, fun h0 => ?_⟩
  obtain ⟨b, off, rfl, hbb, hcc⟩ := hc h0
  exact ⟨b, off, rfl, Nat.lt_of_lt_of_le hbb hb.size, fun i s hs => (hb.cell (p := ⟨b, off + i, none⟩) hbb).trans (hcc i s hs)⟩
theorem LRow.below {w w' : World} {v : Value} {l : List Ln} (h : LRow w v l) (hb : Below w.heap.size w w') : LRow w' v l := by
  obtain ⟨a, cap, rfl, hl, hc⟩ := h
  refine ⟨a, cap, rfl, hl, fun h0 => ?_⟩
  obtain ⟨b, off, rfl, hbb, hcc⟩ := hc h0
  refine ⟨b, off, rfl, Nat.lt_of_lt_of_le hbb hb.size, fun i x hx => ?_⟩
  obtain ⟨vc, h0, h1, h2, h3, h4⟩ := hcc i x hx
  exact ⟨vc, h0.below hb, (hb.cell (p := ⟨b, off + i * 4, none⟩) hbb).trans h1, (hb.cell (p := ⟨b, off + i * 4 + 1, none⟩) hbb).trans h2, (hb.cell (p := ⟨b, off + i * 4 + 2, none⟩) hbb).trans h3, (hb.cell (p := ⟨b, off + i * 4 + 3, none⟩) hbb).trans h4⟩
def lAt (l : List Ln) (k : Nat) : Ln := l.getD k lnZ
def sAt (l : List ByteArray) (k : Nat) : ByteArray := l.getD k ⟨#[]⟩
theorem lAt_get {l : List Ln} {k : Nat} (h : k < l.length) : l[k]? = some (lAt l k) := by unfold lAt; simp [h]
theorem sAt_get {l : List ByteArray} {k : Nat} (h : k < l.length) : l[k]? = some (sAt l k) := by unfold sAt; simp [h]
def boxT : ByteArray := ⟨#[98, 111, 120]⟩
def lastAt (ks : List ByteArray) (k : Nat) : ByteArray := if k = 0 then boxT else sAt ks (k - 1)
section
variable (lk : ByteArray → Ln → ByteArray)
def okLk (ls : List Ln) (ks : List ByteArray) (k : Nat) : Bool := lineB (lAt ls k) && (sAt ks k).toList == (lk (lastAt ks k) (lAt ls k)).toList
def upLk (ls : List Ln) (ks : List ByteArray) : Nat → Bool
  | 0 => true
  | k + 1 => upLk ls ks k && okLk lk ls ks k
def auditB (ls : List Ln) (ks : List ByteArray) : Bool := decide (ls.length ≤ 12) && (decide (ks.length = ls.length) && upLk lk ls ks ls.length)
variable {lk}
theorem upLk_no {ls : List Ln} {ks : List ByteArray} {k : Nat} (h : okLk lk ls ks k = false) : ∀ m, k < m → upLk lk ls ks m = false
  | 0, hm => by omega
  | m + 1, hm => by
    unfold upLk
    by_cases e : k = m
    · subst e; rw [h]; simp
    · rw [upLk_no h m (by omega)]; rfl
theorem upLk_yes {ls : List Ln} {ks : List ByteArray} {k : Nat} (h : upLk lk ls ks k = true) (h2 : okLk lk ls ks k = true) : upLk lk ls ks (k + 1) = true := by unfold upLk; rw [h, h2]; rfl
theorem audit_no {ls : List Ln} {ks : List ByteArray} {k : Nat} (hk : k < ls.length) (h : okLk lk ls ks k = false) : auditB lk ls ks = false := by
  unfold auditB; rw [upLk_no h _ hk]; simp
theorem lastAt_succ (ks : List ByteArray) (k : Nat) : lastAt ks (k + 1) = sAt ks k := rfl
end
/-- What a right line's text weighs. -/
theorem line_small {x : Ln} (h : lineB x = true) : x.cards.length ≤ 6 ∧ (lineT x).size ≤ 200 := by
  unfold lineB at h
  obtain ⟨_, h⟩ := Bool.and_eq_true_iff.1 h
  obtain ⟨h1, h⟩ := Bool.and_eq_true_iff.1 h
  obtain ⟨h2, h3⟩ := Bool.and_eq_true_iff.1 h
  unfold cardsB at h3
  obtain ⟨_, h3⟩ := Bool.and_eq_true_iff.1 h3
  have hc : (x.cards.length : Int) ≤ 6 := of_decide_eq_true h3
  have hn : x.name.size ≤ 20 := by
    rcases Bool.or_eq_true_iff.1 h1 with q | q
    · have := of_decide_eq_true q; omega
    · exact ((C4.nameB_iff _).1 q).2.1
  have hs : x.sum.size ≤ 32 := by
    rcases Bool.or_eq_true_iff.1 h2 with q | q
    · have := of_decide_eq_true q; omega
    · have := of_decide_eq_true q; omega
  refine ⟨by omega, ?_⟩
  have a := upT_size x x.cards.length
  have b := (baseT_size x).2
  unfold lineT
  omega
set_option maxRecDepth 100000 in
set_option maxHeartbeats 3200000 in
theorem audit_spec (lk : ByteArray → Ln → ByteArray) (hlk : ∀ a x, (lk a x).size = 32)
    (HLK : ∀ (last : ByteArray) (x : Ln) (vc : Value) (w : World), IRow w vc x.cards → LnW x → x.cards.length ≤ 100000 → (last ++ lineT x).size ≤ 20000 → Calls Tryd.prog 62 #[.string last, lnV x vc] w fun e w' => e = .returned (.string (lk last x)) ∧ Below w.heap.size w w')
    (vl vk : Value) (ls : List Ln) (ks : List ByteArray) (w : World) (hv : LRow w vl ls) (hu : SRow w vk ks) (hw : ∀ x ∈ ls, LnW x) :
    Calls Tryd.prog 23 #[.agg #[vl, vk]] w fun e w' => e = .returned (.bool (auditB lk ls ks)) ∧ Below w.heap.size w w' := by
  obtain ⟨a, cap, rfl, hl, hc⟩ := hv
  obtain ⟨a2, cap2, rfl, hl2, hc2⟩ := hu
  unfold maxLen at hl hl2
  have B0 : Hid (Below w.heap.size w (w.alloc (.cells #[.slice a ls.length cap, .slice a2 ks.length cap2] 26))) := albel w _
  have k0 := heap_alloc_new w (.cells #[.slice a ls.length cap, .slice a2 ks.length cap2] 26)
  by_cases h12 : ls.length ≤ 12
  · by_cases heq : ks.length = ls.length
    · have HV : Hid (auditB lk ls ks = upLk lk ls ks ls.length) := by unfold Hid auditB; rw [decide_eq_true h12, decide_eq_true heq]; rfl
      have t1 : decide ((12 : Int) < (ls.length : Int)) = false := decide_eq_false (by omega)
      have t2 : ((ks.length : Int) == (ls.length : Int)) = true := by rw [heq]; simp
      rw [HV.out, heq]
      have hlw := fun (k : Nat) (h : k < ls.length) => hw _ (List.mem_of_getElem? (lAt_get h))
      have HLW : Hid _ := hlw
      rw [heq] at k0 B0
      have HK0 : Hid ((w.alloc (.cells #[.slice a ls.length cap, .slice a2 ls.length cap2] 26)).heap[w.heap.size]? = some (.cells #[.slice a ls.length cap, .slice a2 ls.length cap2] 26)) := k0
      clear hlw hw k0
      go_enter Tryd.func23, Tryd.ntmps23
      go_wp2_with fail
      generalize w.alloc (.cells #[.slice a ls.length cap, .slice a2 ls.length cap2] 26) = W1 at *
      go_loopw [3, 4] (fun s i y => ∃ k : Nat, k ≤ ls.length ∧ i = .int .i64 (k : Nat) ∧ s = .string (lastAt ks k) ∧ (lastAt ks k).size ≤ 32 ∧ upLk lk ls ks k = true ∧ Below W1.heap.size W1 y) (fun _ i _ => ls.length - (intOf i).toNat)
      case atStart => exact ⟨0, Nat.zero_le _, rfl, rfl, show boxT.size ≤ 32 by decide, rfl, Below.refl _ _⟩
      case round =>
        obtain ⟨k, hk, rfl, rfl, hls, hup, hb⟩ := hrel
        by_cases hlt : k < ls.length
        · have hlt' : (k : Int) < (ls.length : Int) := by omega
          have hlt2 : (k : Int) < (ks.length : Int) := by omega
          obtain ⟨b, off, rfl, hbb, hcc⟩ := hc (by omega)
          obtain ⟨b2, off2, rfl, hbb2, hcc2⟩ := hc2 (by omega)
          have hx := hcc k _ (lAt_get hlt)
          have hsk := hcc2 k _ (sAt_get (by omega))
          have hlx := HLW.out k hlt
          have HNX : Hid (lastAt ks (k + 1) = sAt ks k) := lastAt_succ ks k
          have HOK : Hid (okLk lk ls ks k = (lineB (lAt ls k) && (sAt ks k).toList == (lk (lastAt ks k) (lAt ls k)).toList)) := rfl
          have HSZ : Hid (lineB (lAt ls k) = true → (lAt ls k).cards.length ≤ 6 ∧ (lineT (lAt ls k)).size ≤ 200) := fun h => line_small h
          have HLS : Hid ((lk (lastAt ks k) (lAt ls k)).size = 32) := hlk _ _
          generalize lAt ls k = x at *
          generalize lastAt ks k = last at *
          generalize sAt ks k = sk at *
          obtain ⟨vc, hvc, e0, e1, e2, e3⟩ := hx
          have CR : Hid (∀ W, Below W1.heap.size W1 W → Calls Tryd.prog 21 #[lnV x vc] W fun e w' => e = .returned (.bool (lineB x)) ∧ Below W.heap.size W w') := fun W hW => A1.line_spec x vc W (hvc.below (bel2 B0.out hW)) hlx.1 hlx.2.1
          have CL : Hid (lineB x = true → ∀ W, Below W1.heap.size W1 W → Calls Tryd.prog 62 #[.string last, lnV x vc] W fun e w' => e = .returned (.string (lk last x)) ∧ Below W.heap.size W w') := fun h W hW => by
            have q := HSZ.out h
            exact HLK last x vc W (hvc.below (bel2 B0.out hW)) hlx (by omega) (by rw [ByteArray.size_append]; omega)
          clear HSZ
          unfold lnV at CR CL
          obtain ⟨kind, name, sum, cs⟩ := x
          dsimp only at *
          have KF : Hid (∀ y, Below W1.heap.size W1 y → (y.cell? ⟨w.heap.size, 0, none⟩ = some (.slice (some ⟨b, off, none⟩) ls.length cap) ∧ y.cell? ⟨w.heap.size, 1, none⟩ = some (.slice (some ⟨b2, off2, none⟩) ls.length cap2) ∧ y.cell? ⟨b, off + k * 4, none⟩ = some (.int .i64 kind) ∧ y.cell? ⟨b, off + k * 4 + 1, none⟩ = some (.string name) ∧ y.cell? ⟨b, off + k * 4 + 2, none⟩ = some (.string sum) ∧ y.cell? ⟨b, off + k * 4 + 3, none⟩ = some vc ∧ y.cell? ⟨b2, off2 + k, none⟩ = some (.string sk))) := fun y hy => by
            have hwy := bel2 B0.out hy
            have h := carry HK0.out hy
            exact ⟨block_cell h 0, block_cell h 1, (hwy.cell (p := ⟨b, off + k * 4, none⟩) hbb).trans e0, (hwy.cell (p := ⟨b, off + k * 4 + 1, none⟩) hbb).trans e1, (hwy.cell (p := ⟨b, off + k * 4 + 2, none⟩) hbb).trans e2, (hwy.cell (p := ⟨b, off + k * 4 + 3, none⟩) hbb).trans e3, (hwy.cell (p := ⟨b2, off2 + k, none⟩) hbb2).trans hsk⟩
          have HB : Hid (Below W1.heap.size W1 wr) := hb
          have hKW := KF.out _ hb
          obtain ⟨c0, c1, _⟩ := hKW
          have hlen2 : ks.length = ls.length := heq
          clear e0 e1 e2 e3 hsk hcc hcc2 hc hc2 hvc hlx hb HLK hlk
          cases g1 : lineB ⟨kind, name, sum, cs⟩ with
          | false =>
            rw [g1] at CR
            have HNO : Hid (upLk lk ls ks ls.length = false) := upLk_no (by rw [HOK.out, g1]; rfl) _ hlt
            clear g1 CL HOK hup HV
            go_wp2_with fail
            have hb0 : Below W1.heap.size W1 wr.drew := HB.out.drew
            refine wp_region_held_drew (S := (fun y => y.cell? ⟨w.heap.size, 0, none⟩ = some (.slice (some ⟨b, off, none⟩) ls.length cap) ∧ y.cell? ⟨w.heap.size, 1, none⟩ = some (.slice (some ⟨b2, off2, none⟩) ls.length cap2) ∧ y.cell? ⟨b, off + k * 4, none⟩ = some (.int .i64 kind) ∧ y.cell? ⟨b, off + k * 4 + 1, none⟩ = some (.string name) ∧ y.cell? ⟨b, off + k * 4 + 2, none⟩ = some (.string sum) ∧ y.cell? ⟨b, off + k * 4 + 3, none⟩ = some vc ∧ y.cell? ⟨b2, off2 + k, none⟩ = some (.string sk))) (by kernel_rfl) (KF.out _ hb0) (fun hHeld => ?_)
            refine TK.take_at 0 (some 25) (v := ?va0) rfl rfl (by kernel_rfl) (by kernel_rfl) (by kernel_rfl) (fun _ _ _ h => h) (Or.inl ⟨rfl, ?ha0⟩) hHeld ?ra0
            case ha0 => intro wq hSw; (try dsimp only at hSw); go_simp; all_goals (with_reducible rfl)
            try simp only [Act.put, List.setIfInBounds_toArray, List.set_cons_zero, List.set_cons_succ]
            refine TK.take_at 1 (some 26) (v := ?va1) rfl rfl (by kernel_rfl) (by kernel_rfl) (by kernel_rfl) (fun _ _ _ h => h) (Or.inl ⟨rfl, ?ha1⟩) hHeld ?ra1
            case ha1 => intro wq hSw; (try dsimp only at hSw); go_simp; all_goals (with_reducible rfl)
            try simp only [Act.put, List.setIfInBounds_toArray, List.set_cons_zero, List.set_cons_succ]
            refine TK.take_at 2 (some 27) (v := ?va2) rfl rfl (by kernel_rfl) (by kernel_rfl) (by kernel_rfl) (fun _ _ _ h => h) (Or.inl ⟨rfl, ?ha2⟩) hHeld ?ra2
            case ha2 => intro wq hSw; (try dsimp only at hSw); go_simp; all_goals (with_reducible rfl)
            try simp only [Act.put, List.setIfInBounds_toArray, List.set_cons_zero, List.set_cons_succ]
            refine TK.take_at 3 (some 28) (v := ?va3) rfl rfl (by kernel_rfl) (by kernel_rfl) (by kernel_rfl) (fun _ _ _ h => h) (Or.inl ⟨rfl, ?ha3⟩) hHeld ?ra3
            case ha3 => intro wq hSw; (try dsimp only at hSw); go_simp; all_goals (with_reducible rfl)
            try simp only [Act.put, List.setIfInBounds_toArray, List.set_cons_zero, List.set_cons_succ]
            refine TK.take_at 4 (some 29) (v := ?va4) rfl rfl (by kernel_rfl) (by kernel_rfl) (by kernel_rfl) (fun _ _ _ h => h) (Or.inl ⟨rfl, ?ha4⟩) hHeld ?ra4
            case ha4 => intro wq hSw; (try dsimp only at hSw); go_simp; all_goals (with_reducible rfl)
            try simp only [Act.put, List.setIfInBounds_toArray, List.set_cons_zero, List.set_cons_succ]
            refine wpAnyH_ready (rs := [5]) (by kernel_rfl) (by simp) ?_
            refine AllReadyH.cons rfl (fun K hK => ?_) AllReadyH.nil
            go_simp
            (go_at_call 21; refine (CR.out _ hb0).mono ?_; rintro e x1 ⟨rfl, hq⟩; have hb0 := bel2 hb0 hq; clear hq)
            try (go_wp2_with fail)
            refine hK.out _ _ ?_ (fun hHeld => ?_)
            · exact KF.out _ hb0
            clear hK K
            try simp only [Act.put, List.setIfInBounds_toArray, List.set_cons_zero, List.set_cons_succ]
            refine TK.take_at 6 (some 31) (v := ?va6) rfl rfl (by kernel_rfl) (by kernel_rfl) (by kernel_rfl) (fun _ _ _ h => h) (Or.inl ⟨rfl, ?ha6⟩) hHeld ?ra6
            case ha6 => intro wq hSw; (try dsimp only at hSw); go_simp; all_goals (with_reducible rfl)
            try simp only [Act.put, List.setIfInBounds_toArray, List.set_cons_zero, List.set_cons_succ]
            refine TK.take_at 7 (some 32) (v := ?va7) rfl rfl (by kernel_rfl) (by kernel_rfl) (by kernel_rfl) (fun _ _ _ h => h) (Or.inl ⟨rfl, ?ha7⟩) hHeld ?ra7
            case ha7 => intro wq hSw; (try dsimp only at hSw); go_simp; all_goals (with_reducible rfl)
            try simp only [Act.put, List.setIfInBounds_toArray, List.set_cons_zero, List.set_cons_succ]
            refine TK.take_at 8 (some 33) (v := undef) rfl rfl (by kernel_rfl) (by kernel_rfl) (by kernel_rfl) (fun _ _ _ h => h) (Or.inr ⟨rfl, rfl⟩) hHeld ?_
            try simp only [Act.put, List.setIfInBounds_toArray, List.set_cons_zero, List.set_cons_succ]
            refine TK.take_at 9 (some 34) (v := undef) rfl rfl (by kernel_rfl) (by kernel_rfl) (by kernel_rfl) (fun _ _ _ h => h) (Or.inr ⟨rfl, rfl⟩) hHeld ?_
            try simp only [Act.put, List.setIfInBounds_toArray, List.set_cons_zero, List.set_cons_succ]
            refine TK.take_at 10 (some 35) (v := undef) rfl rfl (by kernel_rfl) (by kernel_rfl) (by kernel_rfl) (fun _ _ _ h => h) (Or.inr ⟨rfl, rfl⟩) hHeld ?_
            try simp only [Act.put, List.setIfInBounds_toArray, List.set_cons_zero, List.set_cons_succ]
            refine TK.take_at 11 (some 36) (v := undef) rfl rfl (by kernel_rfl) (by kernel_rfl) (by kernel_rfl) (fun _ _ _ h => h) (Or.inr ⟨rfl, rfl⟩) hHeld ?_
            try simp only [Act.put, List.setIfInBounds_toArray, List.set_cons_zero, List.set_cons_succ]
            refine TK.take_at 12 (some 37) (v := undef) rfl rfl (by kernel_rfl) (by kernel_rfl) (by kernel_rfl) (fun _ _ _ h => h) (Or.inr ⟨rfl, rfl⟩) hHeld ?_
            try simp only [Act.put, List.setIfInBounds_toArray, List.set_cons_zero, List.set_cons_succ]
            refine TK.take_at 13 (some 38) (v := undef) rfl rfl (by kernel_rfl) (by kernel_rfl) (by kernel_rfl) (fun _ _ _ h => h) (Or.inr ⟨rfl, rfl⟩) hHeld ?_
            try simp only [Act.put, List.setIfInBounds_toArray, List.set_cons_zero, List.set_cons_succ]
            refine TK.take_at 14 (some 39) (v := undef) rfl rfl (by kernel_rfl) (by kernel_rfl) (by kernel_rfl) (fun _ _ _ h => h) (Or.inr ⟨rfl, rfl⟩) hHeld ?_
            try simp only [Act.put, List.setIfInBounds_toArray, List.set_cons_zero, List.set_cons_succ]
            refine TK.take_at 15 (some 40) (v := undef) rfl rfl (by kernel_rfl) (by kernel_rfl) (by kernel_rfl) (fun _ _ _ h => h) (Or.inr ⟨rfl, rfl⟩) hHeld ?_
            try simp only [Act.put, List.setIfInBounds_toArray, List.set_cons_zero, List.set_cons_succ]
            refine TK.take_at 16 (some 41) (v := undef) rfl rfl (by kernel_rfl) (by kernel_rfl) (by kernel_rfl) (fun _ _ _ h => h) (Or.inr ⟨rfl, rfl⟩) hHeld ?_
            try simp only [Act.put, List.setIfInBounds_toArray, List.set_cons_zero, List.set_cons_succ]
            refine TK.take_at 17 (some 42) (v := undef) rfl rfl (by kernel_rfl) (by kernel_rfl) (by kernel_rfl) (fun _ _ _ h => h) (Or.inr ⟨rfl, rfl⟩) hHeld ?_
            try simp only [Act.put, List.setIfInBounds_toArray, List.set_cons_zero, List.set_cons_succ]
            refine TK.take_at 18 (some 43) (v := undef) rfl rfl (by kernel_rfl) (by kernel_rfl) (by kernel_rfl) (fun _ _ _ h => h) (Or.inr ⟨rfl, rfl⟩) hHeld ?_
            try simp only [Act.put, List.setIfInBounds_toArray, List.set_cons_zero, List.set_cons_succ]
            refine TK.take_at 19 (some 44) (v := undef) rfl rfl (by kernel_rfl) (by kernel_rfl) (by kernel_rfl) (fun _ _ _ h => h) (Or.inr ⟨rfl, rfl⟩) hHeld ?_
            try simp only [Act.put, List.setIfInBounds_toArray, List.set_cons_zero, List.set_cons_succ]
            refine TK.take_at 20 (some 45) (v := undef) rfl rfl (by kernel_rfl) (by kernel_rfl) (by kernel_rfl) (fun _ _ _ h => h) (Or.inr ⟨rfl, rfl⟩) hHeld ?_
            try simp only [Act.put, List.setIfInBounds_toArray, List.set_cons_zero, List.set_cons_succ]
            refine TK.take_at 21 (some 46) (v := ?va21) rfl rfl (by kernel_rfl) (by kernel_rfl) (by kernel_rfl) (fun _ _ _ h => h) (Or.inl ⟨rfl, ?ha21⟩) hHeld ?ra21
            case ha21 => intro wq hSw; (try dsimp only at hSw); go_simp; all_goals (with_reducible rfl)
            try simp only [Act.put, List.setIfInBounds_toArray, List.set_cons_zero, List.set_cons_succ]
            refine wpAnyH_done (by kernel_rfl) ?_ _
            go_wp2_with fail
            go_ret
            exact ⟨by rw [HNO.out]; rfl, bel2 B0.out hb0⟩
          | true =>
            rw [g1] at CR
            have CL2 : Hid _ := CL.out g1
            clear CL
            have CL : Hid _ := CL2.out
            clear CL2
            cases g2 : ((sk).toList == (lk last ⟨kind, name, sum, cs⟩).toList) with
            | false =>
              have HNO : Hid (upLk lk ls ks ls.length = false) := upLk_no (by rw [HOK.out, g1, g2]; rfl) _ hlt
              generalize lk last ⟨kind, name, sum, cs⟩ = lx at *
              clear g1 HOK hup HV
              go_wp2_with fail
              have hb0 : Below W1.heap.size W1 wr.drew := HB.out.drew
              refine wp_region_held_drew (S := (fun y => y.cell? ⟨w.heap.size, 0, none⟩ = some (.slice (some ⟨b, off, none⟩) ls.length cap) ∧ y.cell? ⟨w.heap.size, 1, none⟩ = some (.slice (some ⟨b2, off2, none⟩) ls.length cap2) ∧ y.cell? ⟨b, off + k * 4, none⟩ = some (.int .i64 kind) ∧ y.cell? ⟨b, off + k * 4 + 1, none⟩ = some (.string name) ∧ y.cell? ⟨b, off + k * 4 + 2, none⟩ = some (.string sum) ∧ y.cell? ⟨b, off + k * 4 + 3, none⟩ = some vc ∧ y.cell? ⟨b2, off2 + k, none⟩ = some (.string sk))) (by kernel_rfl) (KF.out _ hb0) (fun hHeld => ?_)
              refine TK.take_at 0 (some 25) (v := ?vb0) rfl rfl (by kernel_rfl) (by kernel_rfl) (by kernel_rfl) (fun _ _ _ h => h) (Or.inl ⟨rfl, ?hb0⟩) hHeld ?rb0
              case hb0 => intro wq hSw; (try dsimp only at hSw); go_simp; all_goals (with_reducible rfl)
              try simp only [Act.put, List.setIfInBounds_toArray, List.set_cons_zero, List.set_cons_succ]
              refine TK.take_at 1 (some 26) (v := ?vb1) rfl rfl (by kernel_rfl) (by kernel_rfl) (by kernel_rfl) (fun _ _ _ h => h) (Or.inl ⟨rfl, ?hb1⟩) hHeld ?rb1
              case hb1 => intro wq hSw; (try dsimp only at hSw); go_simp; all_goals (with_reducible rfl)
              try simp only [Act.put, List.setIfInBounds_toArray, List.set_cons_zero, List.set_cons_succ]
              refine TK.take_at 2 (some 27) (v := ?vb2) rfl rfl (by kernel_rfl) (by kernel_rfl) (by kernel_rfl) (fun _ _ _ h => h) (Or.inl ⟨rfl, ?hb2⟩) hHeld ?rb2
              case hb2 => intro wq hSw; (try dsimp only at hSw); go_simp; all_goals (with_reducible rfl)
              try simp only [Act.put, List.setIfInBounds_toArray, List.set_cons_zero, List.set_cons_succ]
              refine TK.take_at 3 (some 28) (v := ?vb3) rfl rfl (by kernel_rfl) (by kernel_rfl) (by kernel_rfl) (fun _ _ _ h => h) (Or.inl ⟨rfl, ?hb3⟩) hHeld ?rb3
              case hb3 => intro wq hSw; (try dsimp only at hSw); go_simp; all_goals (with_reducible rfl)
              try simp only [Act.put, List.setIfInBounds_toArray, List.set_cons_zero, List.set_cons_succ]
              refine TK.take_at 4 (some 29) (v := ?vb4) rfl rfl (by kernel_rfl) (by kernel_rfl) (by kernel_rfl) (fun _ _ _ h => h) (Or.inl ⟨rfl, ?hb4⟩) hHeld ?rb4
              case hb4 => intro wq hSw; (try dsimp only at hSw); go_simp; all_goals (with_reducible rfl)
              try simp only [Act.put, List.setIfInBounds_toArray, List.set_cons_zero, List.set_cons_succ]
              refine wpAnyH_ready (rs := [5]) (by kernel_rfl) (by simp) ?_
              refine AllReadyH.cons rfl (fun K hK => ?_) AllReadyH.nil
              go_simp
              (go_at_call 21; refine (CR.out _ hb0).mono ?_; rintro e x1 ⟨rfl, hq⟩; have hb0 := bel2 hb0 hq; clear hq)
              try (go_wp2_with fail)
              refine hK.out _ _ ?_ (fun hHeld => ?_)
              · exact KF.out _ hb0
              clear hK K
              try simp only [Act.put, List.setIfInBounds_toArray, List.set_cons_zero, List.set_cons_succ]
              refine TK.take_at 6 (some 31) (v := ?vb6) rfl rfl (by kernel_rfl) (by kernel_rfl) (by kernel_rfl) (fun _ _ _ h => h) (Or.inl ⟨rfl, ?hb6⟩) hHeld ?rb6
              case hb6 => intro wq hSw; (try dsimp only at hSw); go_simp; all_goals (with_reducible rfl)
              try simp only [Act.put, List.setIfInBounds_toArray, List.set_cons_zero, List.set_cons_succ]
              refine TK.take_at 7 (some 32) (v := ?vb7) rfl rfl (by kernel_rfl) (by kernel_rfl) (by kernel_rfl) (fun _ _ _ h => h) (Or.inl ⟨rfl, ?hb7⟩) hHeld ?rb7
              case hb7 => intro wq hSw; (try dsimp only at hSw); go_simp; all_goals (with_reducible rfl)
              try simp only [Act.put, List.setIfInBounds_toArray, List.set_cons_zero, List.set_cons_succ]
              refine TK.take_at 8 (some 33) (v := ?vb8) rfl rfl (by kernel_rfl) (by kernel_rfl) (by kernel_rfl) (fun _ _ _ h => h) (Or.inl ⟨rfl, ?hb8⟩) hHeld ?rb8
              case hb8 => intro wq hSw; (try dsimp only at hSw); go_simp; all_goals (with_reducible rfl)
              try simp only [Act.put, List.setIfInBounds_toArray, List.set_cons_zero, List.set_cons_succ]
              refine TK.take_at 9 (some 34) (v := ?vb9) rfl rfl (by kernel_rfl) (by kernel_rfl) (by kernel_rfl) (fun _ _ _ h => h) (Or.inl ⟨rfl, ?hb9⟩) hHeld ?rb9
              case hb9 => intro wq hSw; (try dsimp only at hSw); go_simp; all_goals (with_reducible rfl)
              try simp only [Act.put, List.setIfInBounds_toArray, List.set_cons_zero, List.set_cons_succ]
              refine TK.take_at 10 (some 35) (v := ?vb10) rfl rfl (by kernel_rfl) (by kernel_rfl) (by kernel_rfl) (fun _ _ _ h => h) (Or.inl ⟨rfl, ?hb10⟩) hHeld ?rb10
              case hb10 => intro wq hSw; (try dsimp only at hSw); go_simp; all_goals (with_reducible rfl)
              try simp only [Act.put, List.setIfInBounds_toArray, List.set_cons_zero, List.set_cons_succ]
              refine TK.take_at 11 (some 36) (v := ?vb11) rfl rfl (by kernel_rfl) (by kernel_rfl) (by kernel_rfl) (fun _ _ _ h => h) (Or.inl ⟨rfl, ?hb11⟩) hHeld ?rb11
              case hb11 => intro wq hSw; (try dsimp only at hSw); go_simp; all_goals (with_reducible rfl)
              try simp only [Act.put, List.setIfInBounds_toArray, List.set_cons_zero, List.set_cons_succ]
              refine TK.take_at 12 (some 37) (v := ?vb12) rfl rfl (by kernel_rfl) (by kernel_rfl) (by kernel_rfl) (fun _ _ _ h => h) (Or.inl ⟨rfl, ?hb12⟩) hHeld ?rb12
              case hb12 => intro wq hSw; (try dsimp only at hSw); go_simp; all_goals (with_reducible rfl)
              try simp only [Act.put, List.setIfInBounds_toArray, List.set_cons_zero, List.set_cons_succ]
              refine TK.take_at 13 (some 38) (v := ?vb13) rfl rfl (by kernel_rfl) (by kernel_rfl) (by kernel_rfl) (fun _ _ _ h => h) (Or.inl ⟨rfl, ?hb13⟩) hHeld ?rb13
              case hb13 => intro wq hSw; (try dsimp only at hSw); go_simp; all_goals (with_reducible rfl)
              try simp only [Act.put, List.setIfInBounds_toArray, List.set_cons_zero, List.set_cons_succ]
              refine TK.take_at 14 (some 39) (v := ?vb14) rfl rfl (by kernel_rfl) (by kernel_rfl) (by kernel_rfl) (fun _ _ _ h => h) (Or.inl ⟨rfl, ?hb14⟩) hHeld ?rb14
              case hb14 => intro wq hSw; (try dsimp only at hSw); go_simp; all_goals (with_reducible rfl)
              try simp only [Act.put, List.setIfInBounds_toArray, List.set_cons_zero, List.set_cons_succ]
              refine TK.take_at 15 (some 40) (v := ?vb15) rfl rfl (by kernel_rfl) (by kernel_rfl) (by kernel_rfl) (fun _ _ _ h => h) (Or.inl ⟨rfl, ?hb15⟩) hHeld ?rb15
              case hb15 => intro wq hSw; (try dsimp only at hSw); go_simp; all_goals (with_reducible rfl)
              try simp only [Act.put, List.setIfInBounds_toArray, List.set_cons_zero, List.set_cons_succ]
              refine TK.take_at 16 (some 41) (v := ?vb16) rfl rfl (by kernel_rfl) (by kernel_rfl) (by kernel_rfl) (fun _ _ _ h => h) (Or.inl ⟨rfl, ?hb16⟩) hHeld ?rb16
              case hb16 => intro wq hSw; (try dsimp only at hSw); go_simp; all_goals (with_reducible rfl)
              try simp only [Act.put, List.setIfInBounds_toArray, List.set_cons_zero, List.set_cons_succ]
              refine TK.take_at 17 (some 42) (v := ?vb17) rfl rfl (by kernel_rfl) (by kernel_rfl) (by kernel_rfl) (fun _ _ _ h => h) (Or.inl ⟨rfl, ?hb17⟩) hHeld ?rb17
              case hb17 => intro wq hSw; (try dsimp only at hSw); go_simp; all_goals (with_reducible rfl)
              try simp only [Act.put, List.setIfInBounds_toArray, List.set_cons_zero, List.set_cons_succ]
              refine TK.take_at 18 (some 43) (v := ?vb18) rfl rfl (by kernel_rfl) (by kernel_rfl) (by kernel_rfl) (fun _ _ _ h => h) (Or.inl ⟨rfl, ?hb18⟩) hHeld ?rb18
              case hb18 => intro wq hSw; (try dsimp only at hSw); go_simp; all_goals (with_reducible rfl)
              try simp only [Act.put, List.setIfInBounds_toArray, List.set_cons_zero, List.set_cons_succ]
              refine wpAnyH_ready (rs := [19]) (by kernel_rfl) (by simp) ?_
              refine AllReadyH.cons rfl (fun K hK => ?_) AllReadyH.nil
              go_simp
              (go_at_call 62; refine (CL.out _ hb0).mono ?_; rintro e x2 ⟨rfl, hq⟩; have hb0 := bel2 hb0 hq; clear hq)
              try (go_wp2_with fail)
              refine hK.out _ _ ?_ (fun hHeld => ?_)
              · exact KF.out _ hb0
              clear hK K
              try simp only [Act.put, List.setIfInBounds_toArray, List.set_cons_zero, List.set_cons_succ]
              refine TK.take_at 20 (some 45) (v := ?vb20) rfl rfl (by kernel_rfl) (by kernel_rfl) (by kernel_rfl) (fun _ _ _ h => h) (Or.inl ⟨rfl, ?hb20⟩) hHeld ?rb20
              case hb20 => intro wq hSw; (try dsimp only at hSw); go_simp; all_goals (with_reducible rfl)
              try simp only [Act.put, List.setIfInBounds_toArray, List.set_cons_zero, List.set_cons_succ]
              refine TK.take_at 21 (some 46) (v := ?vb21) rfl rfl (by kernel_rfl) (by kernel_rfl) (by kernel_rfl) (fun _ _ _ h => h) (Or.inl ⟨rfl, ?hb21⟩) hHeld ?rb21
              case hb21 => intro wq hSw; (try dsimp only at hSw); go_simp; all_goals (with_reducible rfl)
              try simp only [Act.put, List.setIfInBounds_toArray, List.set_cons_zero, List.set_cons_succ]
              refine wpAnyH_done (by kernel_rfl) ?_ _
              go_wp2_with fail
              go_ret
              exact ⟨by rw [HNO.out]; rfl, bel2 B0.out hb0⟩
            | true =>
              have HUP : Hid (upLk lk ls ks (k + 1) = true) := upLk_yes hup (by rw [HOK.out, g1, g2]; rfl)
              have HS2 : Hid (sk.size ≤ 32) := by
                have q : sk = lk last ⟨kind, name, sum, cs⟩ := by
                  have g3 := beq_iff_eq.1 g2
                  rw [ByteArray.toList_eq, ByteArray.toList_eq] at g3
                  exact ByteArray.ext (Array.ext' g3)
                unfold Hid
                rw [q, HLS.out]
                omega
              generalize lk last ⟨kind, name, sum, cs⟩ = lx at *
              clear g1 HOK hup HV HLS
              go_upto_region 7 with fail
              go_cut [46] from 18 to 51 (fun s y => s = .bool false ∧ Below W1.heap.size W1 y)
              case first =>
                have hb0 : Below W1.heap.size W1 wr.drew := HB.out.drew
                refine wp_region_held_drew (S := (fun y => y.cell? ⟨w.heap.size, 0, none⟩ = some (.slice (some ⟨b, off, none⟩) ls.length cap) ∧ y.cell? ⟨w.heap.size, 1, none⟩ = some (.slice (some ⟨b2, off2, none⟩) ls.length cap2) ∧ y.cell? ⟨b, off + k * 4, none⟩ = some (.int .i64 kind) ∧ y.cell? ⟨b, off + k * 4 + 1, none⟩ = some (.string name) ∧ y.cell? ⟨b, off + k * 4 + 2, none⟩ = some (.string sum) ∧ y.cell? ⟨b, off + k * 4 + 3, none⟩ = some vc ∧ y.cell? ⟨b2, off2 + k, none⟩ = some (.string sk))) (by kernel_rfl) (KF.out _ hb0) (fun hHeld => ?_)
                refine TK.take_at 0 (some 25) (v := ?vc0) rfl rfl (by kernel_rfl) (by kernel_rfl) (by kernel_rfl) (fun _ _ _ h => h) (Or.inl ⟨rfl, ?hc0⟩) hHeld ?rc0
                case hc0 => intro wq hSw; (try dsimp only at hSw); go_simp; all_goals (with_reducible rfl)
                try simp only [Act.put, List.setIfInBounds_toArray, List.set_cons_zero, List.set_cons_succ]
                refine TK.take_at 1 (some 26) (v := ?vc1) rfl rfl (by kernel_rfl) (by kernel_rfl) (by kernel_rfl) (fun _ _ _ h => h) (Or.inl ⟨rfl, ?hc1⟩) hHeld ?rc1
                case hc1 => intro wq hSw; (try dsimp only at hSw); go_simp; all_goals (with_reducible rfl)
                try simp only [Act.put, List.setIfInBounds_toArray, List.set_cons_zero, List.set_cons_succ]
                refine TK.take_at 2 (some 27) (v := ?vc2) rfl rfl (by kernel_rfl) (by kernel_rfl) (by kernel_rfl) (fun _ _ _ h => h) (Or.inl ⟨rfl, ?hc2⟩) hHeld ?rc2
                case hc2 => intro wq hSw; (try dsimp only at hSw); go_simp; all_goals (with_reducible rfl)
                try simp only [Act.put, List.setIfInBounds_toArray, List.set_cons_zero, List.set_cons_succ]
                refine TK.take_at 3 (some 28) (v := ?vc3) rfl rfl (by kernel_rfl) (by kernel_rfl) (by kernel_rfl) (fun _ _ _ h => h) (Or.inl ⟨rfl, ?hc3⟩) hHeld ?rc3
                case hc3 => intro wq hSw; (try dsimp only at hSw); go_simp; all_goals (with_reducible rfl)
                try simp only [Act.put, List.setIfInBounds_toArray, List.set_cons_zero, List.set_cons_succ]
                refine TK.take_at 4 (some 29) (v := ?vc4) rfl rfl (by kernel_rfl) (by kernel_rfl) (by kernel_rfl) (fun _ _ _ h => h) (Or.inl ⟨rfl, ?hc4⟩) hHeld ?rc4
                case hc4 => intro wq hSw; (try dsimp only at hSw); go_simp; all_goals (with_reducible rfl)
                try simp only [Act.put, List.setIfInBounds_toArray, List.set_cons_zero, List.set_cons_succ]
                refine wpAnyH_ready (rs := [5]) (by kernel_rfl) (by simp) ?_
                refine AllReadyH.cons rfl (fun K hK => ?_) AllReadyH.nil
                go_simp
                (go_at_call 21; refine (CR.out _ hb0).mono ?_; rintro e x1 ⟨rfl, hq⟩; have hb0 := bel2 hb0 hq; clear hq)
                try (go_wp2_with fail)
                refine hK.out _ _ ?_ (fun hHeld => ?_)
                · exact KF.out _ hb0
                clear hK K
                try simp only [Act.put, List.setIfInBounds_toArray, List.set_cons_zero, List.set_cons_succ]
                refine TK.take_at 6 (some 31) (v := ?vc6) rfl rfl (by kernel_rfl) (by kernel_rfl) (by kernel_rfl) (fun _ _ _ h => h) (Or.inl ⟨rfl, ?hc6⟩) hHeld ?rc6
                case hc6 => intro wq hSw; (try dsimp only at hSw); go_simp; all_goals (with_reducible rfl)
                try simp only [Act.put, List.setIfInBounds_toArray, List.set_cons_zero, List.set_cons_succ]
                refine TK.take_at 7 (some 32) (v := ?vc7) rfl rfl (by kernel_rfl) (by kernel_rfl) (by kernel_rfl) (fun _ _ _ h => h) (Or.inl ⟨rfl, ?hc7⟩) hHeld ?rc7
                case hc7 => intro wq hSw; (try dsimp only at hSw); go_simp; all_goals (with_reducible rfl)
                try simp only [Act.put, List.setIfInBounds_toArray, List.set_cons_zero, List.set_cons_succ]
                refine TK.take_at 8 (some 33) (v := ?vc8) rfl rfl (by kernel_rfl) (by kernel_rfl) (by kernel_rfl) (fun _ _ _ h => h) (Or.inl ⟨rfl, ?hc8⟩) hHeld ?rc8
                case hc8 => intro wq hSw; (try dsimp only at hSw); go_simp; all_goals (with_reducible rfl)
                try simp only [Act.put, List.setIfInBounds_toArray, List.set_cons_zero, List.set_cons_succ]
                refine TK.take_at 9 (some 34) (v := ?vc9) rfl rfl (by kernel_rfl) (by kernel_rfl) (by kernel_rfl) (fun _ _ _ h => h) (Or.inl ⟨rfl, ?hc9⟩) hHeld ?rc9
                case hc9 => intro wq hSw; (try dsimp only at hSw); go_simp; all_goals (with_reducible rfl)
                try simp only [Act.put, List.setIfInBounds_toArray, List.set_cons_zero, List.set_cons_succ]
                refine TK.take_at 10 (some 35) (v := ?vc10) rfl rfl (by kernel_rfl) (by kernel_rfl) (by kernel_rfl) (fun _ _ _ h => h) (Or.inl ⟨rfl, ?hc10⟩) hHeld ?rc10
                case hc10 => intro wq hSw; (try dsimp only at hSw); go_simp; all_goals (with_reducible rfl)
                try simp only [Act.put, List.setIfInBounds_toArray, List.set_cons_zero, List.set_cons_succ]
                refine TK.take_at 11 (some 36) (v := ?vc11) rfl rfl (by kernel_rfl) (by kernel_rfl) (by kernel_rfl) (fun _ _ _ h => h) (Or.inl ⟨rfl, ?hc11⟩) hHeld ?rc11
                case hc11 => intro wq hSw; (try dsimp only at hSw); go_simp; all_goals (with_reducible rfl)
                try simp only [Act.put, List.setIfInBounds_toArray, List.set_cons_zero, List.set_cons_succ]
                refine TK.take_at 12 (some 37) (v := ?vc12) rfl rfl (by kernel_rfl) (by kernel_rfl) (by kernel_rfl) (fun _ _ _ h => h) (Or.inl ⟨rfl, ?hc12⟩) hHeld ?rc12
                case hc12 => intro wq hSw; (try dsimp only at hSw); go_simp; all_goals (with_reducible rfl)
                try simp only [Act.put, List.setIfInBounds_toArray, List.set_cons_zero, List.set_cons_succ]
                refine TK.take_at 13 (some 38) (v := ?vc13) rfl rfl (by kernel_rfl) (by kernel_rfl) (by kernel_rfl) (fun _ _ _ h => h) (Or.inl ⟨rfl, ?hc13⟩) hHeld ?rc13
                case hc13 => intro wq hSw; (try dsimp only at hSw); go_simp; all_goals (with_reducible rfl)
                try simp only [Act.put, List.setIfInBounds_toArray, List.set_cons_zero, List.set_cons_succ]
                refine TK.take_at 14 (some 39) (v := ?vc14) rfl rfl (by kernel_rfl) (by kernel_rfl) (by kernel_rfl) (fun _ _ _ h => h) (Or.inl ⟨rfl, ?hc14⟩) hHeld ?rc14
                case hc14 => intro wq hSw; (try dsimp only at hSw); go_simp; all_goals (with_reducible rfl)
                try simp only [Act.put, List.setIfInBounds_toArray, List.set_cons_zero, List.set_cons_succ]
                refine TK.take_at 15 (some 40) (v := ?vc15) rfl rfl (by kernel_rfl) (by kernel_rfl) (by kernel_rfl) (fun _ _ _ h => h) (Or.inl ⟨rfl, ?hc15⟩) hHeld ?rc15
                case hc15 => intro wq hSw; (try dsimp only at hSw); go_simp; all_goals (with_reducible rfl)
                try simp only [Act.put, List.setIfInBounds_toArray, List.set_cons_zero, List.set_cons_succ]
                refine TK.take_at 16 (some 41) (v := ?vc16) rfl rfl (by kernel_rfl) (by kernel_rfl) (by kernel_rfl) (fun _ _ _ h => h) (Or.inl ⟨rfl, ?hc16⟩) hHeld ?rc16
                case hc16 => intro wq hSw; (try dsimp only at hSw); go_simp; all_goals (with_reducible rfl)
                try simp only [Act.put, List.setIfInBounds_toArray, List.set_cons_zero, List.set_cons_succ]
                refine TK.take_at 17 (some 42) (v := ?vc17) rfl rfl (by kernel_rfl) (by kernel_rfl) (by kernel_rfl) (fun _ _ _ h => h) (Or.inl ⟨rfl, ?hc17⟩) hHeld ?rc17
                case hc17 => intro wq hSw; (try dsimp only at hSw); go_simp; all_goals (with_reducible rfl)
                try simp only [Act.put, List.setIfInBounds_toArray, List.set_cons_zero, List.set_cons_succ]
                refine TK.take_at 18 (some 43) (v := ?vc18) rfl rfl (by kernel_rfl) (by kernel_rfl) (by kernel_rfl) (fun _ _ _ h => h) (Or.inl ⟨rfl, ?hc18⟩) hHeld ?rc18
                case hc18 => intro wq hSw; (try dsimp only at hSw); go_simp; all_goals (with_reducible rfl)
                try simp only [Act.put, List.setIfInBounds_toArray, List.set_cons_zero, List.set_cons_succ]
                refine wpAnyH_ready (rs := [19]) (by kernel_rfl) (by simp) ?_
                refine AllReadyH.cons rfl (fun K hK => ?_) AllReadyH.nil
                go_simp
                (go_at_call 62; refine (CL.out _ hb0).mono ?_; rintro e x2 ⟨rfl, hq⟩; have hb0 := bel2 hb0 hq; clear hq)
                try (go_wp2_with fail)
                refine hK.out _ _ ?_ (fun hHeld => ?_)
                · exact KF.out _ hb0
                clear hK K
                try simp only [Act.put, List.setIfInBounds_toArray, List.set_cons_zero, List.set_cons_succ]
                refine TK.take_at 20 (some 45) (v := ?vc20) rfl rfl (by kernel_rfl) (by kernel_rfl) (by kernel_rfl) (fun _ _ _ h => h) (Or.inl ⟨rfl, ?hc20⟩) hHeld ?rc20
                case hc20 => intro wq hSw; (try dsimp only at hSw); go_simp; all_goals (with_reducible rfl)
                try simp only [Act.put, List.setIfInBounds_toArray, List.set_cons_zero, List.set_cons_succ]
                refine TK.take_at 21 (some 46) (v := ?vc21) rfl rfl (by kernel_rfl) (by kernel_rfl) (by kernel_rfl) (fun _ _ _ h => h) (Or.inl ⟨rfl, ?hc21⟩) hHeld ?rc21
                case hc21 => intro wq hSw; (try dsimp only at hSw); go_simp; all_goals (with_reducible rfl)
                try simp only [Act.put, List.setIfInBounds_toArray, List.set_cons_zero, List.set_cons_succ]
                refine wpAnyH_done (by kernel_rfl) ?_ _
                go_wp2_with fail
                go_meet
                case rel => exact ⟨rfl, hb0⟩
              case rest =>
                obtain ⟨rfl, hb3⟩ := hcut
                have HB3 : Hid (Below W1.heap.size W1 wc) := hb3
                have hKC := KF.out _ hb3
                obtain ⟨d0, d1, _, _, _, _, d6⟩ := hKC
                clear c0 c1 hb3 KF CR CL HB
                go_wp2_with fail
                go_roundw
                case rel =>
                  refine ⟨k + 1, hlt, ?_, ?_, ?_, HUP.out, HB3.out⟩
                  · go_num
                  · rw [HNX.out]
                  · rw [HNX.out]; exact HS2.out
                case measure => simp [intOf]; omega
        · have hk2 : k = ls.length := by omega
          subst hk2
          have HB : Hid (Below w.heap.size w wr) := bel2 B0.out hb
          have hh := carry HK0.out hb
          have q0 := block_cell hh 0
          have HU : Hid (upLk lk ls ks ls.length = true) := hup
          clear hb hh hc hc2 HLK hup HLW
          go_wp2_with fail
          go_ret
          exact ⟨by rw [HU.out]; rfl, HB.out⟩
    · have HV : Hid (auditB lk ls ks = false) := by unfold Hid auditB; rw [decide_eq_false heq]; simp
      have t1 : decide ((12 : Int) < (ls.length : Int)) = false := decide_eq_false (by omega)
      have t2 : ((ks.length : Int) == (ls.length : Int)) = false := by simp; omega
      rw [HV.out]
      clear HLK hc hc2 hw
      go_enter Tryd.func23, Tryd.ntmps23
      go_wp2
      go_ret
      exact ⟨rfl, B0.out⟩
  · have HV : Hid (auditB lk ls ks = false) := by unfold Hid auditB; rw [decide_eq_false h12]; simp
    have t1 : decide ((12 : Int) < (ls.length : Int)) = true := decide_eq_true (by omega)
    rw [HV.out]
    clear HLK hc hc2 hw
    go_enter Tryd.func23, Tryd.ntmps23
    go_wp2
    go_ret
    exact ⟨rfl, B0.out⟩
end Go.Proofs.YtkpjdmmgdmbmnaaDoor.A4
