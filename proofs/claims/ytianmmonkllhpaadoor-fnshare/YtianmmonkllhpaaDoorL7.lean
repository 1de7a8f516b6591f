/-
  What is split, in the program.
-/
import Derived.Test.YtianmmonkllhpaaDoorL6
namespace Go.Proofs.YtianmmonkllhpaaDoor.L7
open Go.RowKit
open Go.Proofs.YtianmmonkllhpaaDoor.C0 Go.Proofs.YtianmmonkllhpaaDoor.HB Go.Proofs.YtianmmonkllhpaaDoor.NU Go.Proofs.YtianmmonkllhpaaDoor.ST
open Go.Proofs.YtianmmonkllhpaaDoor.SH (Sh Shares OShares Wrote cp)
open Go.Proofs.YtianmmonkllhpaaDoor.K2 (Laid)
open Go.Proofs.YtianmmonkllhpaaDoor.J1 (yes2 no2)
open Go.Proofs.YtianmmonkllhpaaDoor.J7 (secOk salOk splitR_no Told)
open Go.Proofs.YtianmmonkllhpaaDoor.L6 (rowsL rowsL_at)

theorem wrote_grown {S : Nat → Prop} {a b c : World} {row : Option Nat} (h : Wrote S a b) (hg : b.grownBy c row) (hr : ∀ k, row = some k → a.heap.size ≤ k) : Wrote S a c :=
  ⟨hg.os.trans h.os, hg.tape.trans h.tape, hg.output.trans h.output, Nat.le_trans h.size hg.size, fun k hk hs => (hg.block k (Nat.lt_of_lt_of_le hk h.size) (fun e => by have := hr k e.symm; omega)).trans (h.block k hk hs)⟩
theorem wrote_below {S : Nat → Prop} {a b c : World} (h : Wrote S a b) (hb : Below b.heap.size b c) : Wrote S a c := h.trans (Wrote.of_below hb)
/-- Shares so far, of the call's own; but for one block nothing of what lay there is written. -/
structure OutI (ga N : Nat) (w : World) (o : Value) (l : List Sh) (x : World) : Prop where
  own : OShares w.heap.size x o l
  wrote : Wrote (fun k => k = ga) w x
  row : ∃ f, x.rowIs ga 5 N f
/-- The bytes of a share so far, at a place of that block. -/
structure RowA (secret salt : ByteArray) (m z ga N fr : Nat) (w : World) (k : Nat) (x : World) : Prop where
  row : ∃ f, x.rowIs ga 5 N f ∧ ∀ j, j < k → f (fr + j) = .int .u8 (shareN secret salt m z j : Nat)
  wrote : Wrote (fun k => k = ga) w x
theorem RowA.step {secret salt : ByteArray} {m z ga N fr k : Nat} {w x : World} (h : RowA secret salt m z ga N fr w k x) :
    RowA secret salt m z ga N fr w (k + 1) (x.setCell ⟨ga, fr + k, none⟩ (.int .u8 (shareN secret salt m z k : Nat))) := by
  obtain ⟨f, h1, h2⟩ := h.row
  refine ⟨⟨_, h1.set _ _, fun j hj => ?_⟩, h.wrote.setCell (.inr rfl) _⟩
  show (if fr + j = fr + k then _ else f (fr + j)) = _
  by_cases e : j = k
  · rw [if_pos (by omega), e]
  · rw [if_neg (by omega)]; exact h2 j (by omega)
theorem RowA.below {secret salt : ByteArray} {m z ga N fr k : Nat} {w x y : World} (h : RowA secret salt m z ga N fr w k x) (hb : Below x.heap.size x y) : RowA secret salt m z ga N fr w k y := by
  obtain ⟨f, h1, h2⟩ := h.row
  exact ⟨⟨f, h1.of_block (hb.block _ h1.lt), h2⟩, wrote_below h.wrote hb⟩
theorem conv_at {secret salt : ByteArray} {m z ga N fr : Nat} {w x : World} (h : RowA secret salt m z ga N fr w secret.size x) (hle : fr + secret.size ≤ N) :
    (convert 22 9 (.slice (some ⟨ga, fr, none⟩) secret.size secret.size)).run Tryd.prog x = .ok (.string ⟨(shareL secret salt m z).toArray⟩) x := by
  obtain ⟨f, h1, h2⟩ := h.row
  have hl := shareL_length secret salt m z
  have := run_convert_bytes_back (P := Tryd.prog) x 22 9 5 ⟨ga, fr, none⟩ secret.size (shareL secret salt m z) Tryd.underlying22 Tryd.underlying5 Tryd.underlying9 (fun j hj => by
    have hj' : j < secret.size := by omega
    rw [NU.add0, h1.cell (by omega), h2 j hj']
    have := shareN_lt secret salt m z j
    simp [shareL, UInt8.toNat_ofNat']
    omega)
  rw [hl] at this
  exact this
theorem isSome_of {o : Option Value} {v : Value} (h : o = some v) : o.isSome = true := by rw [h]; rfl
set_option maxRecDepth 100000 in
set_option maxHeartbeats 3200000 in
theorem split_impl (secret salt : ByteArray) (need cards : Int) (w : World) (hs : secret.size ≤ maxLen) (ha : salt.size ≤ maxLen) (hL : Laid w) :
    Calls Tryd.prog 6 #[.string secret, .int .i64 need, .int .i64 cards, .string salt] w fun e w' => ∃ a cap, e = .returned (.slice a (splitR secret need cards salt).length cap) ∧ OShares w.heap.size w' (.slice a (splitR secret need cards salt).length cap) (splitR secret need cards salt) ∧ Below w.heap.size w w' := by
  unfold maxLen at hs ha
  have hmay := L6.may_impl secret salt need cards w hs ha
  cases hok : splitOk secret need cards salt with
  | false =>
    have HE : Hid (splitR secret need cards salt = []) := splitR_no hok
    rw [HE.out]
    rw [hok] at hmay
    go_enter Tryd.func6, Tryd.ntmps6
    go_wp2_with fail
    refine hmay.mono ?_
    rintro e w1 ⟨rfl, rfl⟩
    go_wp2
    go_ret
    exact ⟨none, 0, rfl, World.ownsRow_nil _ _ _ _, Below.refl _ _⟩
  | true =>
    rw [hok] at hmay
    have hok2 : (secOk secret && (decide (1 ≤ cards ∧ cards ≤ 6) && (decide (1 ≤ need ∧ need ≤ cards) && salOk salt))) = true := hok
    obtain ⟨p1, p2⟩ := Bool.and_eq_true_iff.1 hok2
    obtain ⟨p2, p3⟩ := Bool.and_eq_true_iff.1 p2
    obtain ⟨p3, p4⟩ := Bool.and_eq_true_iff.1 p3
    have q1 := of_decide_eq_true p1
    have q2 := of_decide_eq_true p2
    have q3 := of_decide_eq_true p3
    have q4 := of_decide_eq_true p4
    obtain ⟨cn, rfl⟩ := Int.eq_ofNat_of_zero_le (show 0 ≤ cards by omega)
    obtain ⟨nn, rfl⟩ := Int.eq_ofNat_of_zero_le (show 0 ≤ need by omega)
    obtain ⟨m, hm⟩ : ∃ m, nn = m + 1 := ⟨nn - 1, by omega⟩
    have HE : Hid (splitR secret (nn : Int) (cn : Int) salt = splitL secret salt m cn) := by
      unfold Hid splitR; rw [hok, if_pos rfl, hm]; rfl
    rw [HE.out, splitL_length]
    have hc6 : cn ≤ 6 := by omega
    have hc1 : 1 ≤ cn := by omega
    have hm5 : m ≤ 5 := by omega
    have hs1 := q1.1
    have hs16 := q1.2
    have hsa := q4.2
    have hcut := fun W => L6.cut_impl cn secret.size W hc1 hc6 hs1 hs16
    have hhid := fun W (hW : Laid W) => L5.hiding_impl salt nn m W hm hm5 hsa hW
    clear hok hok2 p1 p2 p3 p4 q1 q2 q3 q4 HE hm
    go_enter Tryd.func6, Tryd.ntmps6
    go_wp2_with fail
    refine hmay.mono ?_
    rintro e w1 ⟨rfl, rfl⟩
    clear hmay
    go_wp2_with fail
    refine (hhid _ hL).mono ?_
    rintro e W1 ⟨am, cm, rfl, hmo, hbm⟩
    clear hhid hL
    have HM : Hid (OTxts w.heap.size W1 (.slice am m cm) (masks salt m) ∧ Below w.heap.size w W1) := ⟨hmo, hbm⟩
    clear hmo hbm
    go_wp2_with fail
    refine (hcut _).mono ?_
    rintro e W2 ⟨ar, cr, rfl, hro, ⟨f0, hrow⟩, hbr⟩
    clear hcut
    have HR : Hid (W2.ownsRow (W1.heap.size + 1) 22 1 (.slice ar cn cr) cn (rowsL W1.heap.size secret.size cn) ∧ W2.rowIs W1.heap.size 5 (cn * secret.size) f0 ∧ Below W1.heap.size W1 W2) := ⟨hro, hrow, hbr⟩
    obtain ⟨gr, hgr, hgrl, hgrz⟩ : ∃ gr, ar = some ⟨gr, 0, none⟩ ∧ W1.heap.size + 1 ≤ gr ∧ gr < W2.heap.size := by
      rcases hro.2 with ⟨h1, h0⟩ | ⟨g, cap, cur, h1, hb, hg, _⟩
      · omega
      · simp only [Value.slice.injEq] at h1
        exact ⟨g, h1.1, hb, (Array.getElem?_eq_some_iff.1 hg).1⟩
    subst hgr
    obtain ⟨N, hN⟩ : ∃ N, cn * secret.size = N := ⟨_, rfl⟩
    have HN : Hid (cn * secret.size = N) := hN
    rw [hN] at HR
    have HG0 : Hid (OutI W1.heap.size N W2 (.slice none 0 0) (splitL secret salt m 0) W2) := ⟨World.ownsRow_nil _ _ _ _, Wrote.refl _ _, ⟨f0, HR.out.2.1⟩⟩
    have HC : Hid (∀ c, c < cn → W2.cell? ⟨gr, c, none⟩ = some (.slice (some ⟨W1.heap.size, c * secret.size, none⟩) 0 secret.size)) := fun c hc => by
      have := World.ownsRow.cells HR.out.1 rfl c _ (rowsL_at W1.heap.size secret.size cn c hc)
      rw [NU.add0, Nat.zero_add] at this
      exact this
    have HT2 : Hid (Txts W2 (.slice am m cm) (masks salt m)) := (HM.out.1.txts (by rw [masks_length]; omega)).below HR.out.2.2
    have HTB : Hid (∀ g, (Value.slice am m cm).ownBlock = some g → ¬ g = W1.heap.size) := fun g hg e => by
      have := (HM.out.1.lt g hg).2; omega
    clear hro hrow hbr hN
    have hnl : W1.heap.size < W2.heap.size := by omega
    go_wp2_with fail
    go_loopw [10, 29] (fun o i x => ∃ c : Nat, c ≤ cn ∧ i = .int .i64 (c : Nat) ∧ OutI W1.heap.size N W2 o (splitL secret salt m c) x) (fun _ i _ => cn - (intOf i).toNat)
    case atStart => exact ⟨0, Nat.zero_le _, rfl, HG0.out⟩
    case round =>
      clear HG0
      obtain ⟨c, hc, rfl, hout⟩ := hrel
      by_cases hct : c < cn
      · have hci : (c : Int) < (cn : Int) := by omega
        have hle : c * secret.size + secret.size ≤ N := by
          rw [← HN.out, show c * secret.size + secret.size = (c + 1) * secret.size by rw [Nat.add_mul, Nat.one_mul]]
          exact Nat.mul_le_mul_right _ hct
        have hcell : wr.cell? ⟨gr, c, none⟩ = some (.slice (some ⟨W1.heap.size, c * secret.size, none⟩) 0 secret.size) :=
          (World.cell?_of_block (w := W2) (a := ⟨gr, c, none⟩) (hout.wrote.block gr hgrz (by omega))).trans (HC.out c hct)
        have HSS : Hid (splitL secret salt m (c + 1) = splitL secret salt m c ++ [(((c + 1 : Nat) : Int), (⟨(shareL secret salt m (c + 1)).toArray⟩ : ByteArray))]) := splitL_succ secret salt m c
        have HSn : Hid ((splitL secret salt m c).length = c) := splitL_length secret salt m c
        have hTx : Txts wr (.slice am m cm) (masks salt m) := HT2.out.wrote hout.wrote (fun g hg hs => HTB.out g hg hs)
        have HTx : Hid (Txts wr (.slice am m cm) (masks salt m)) := hTx
        have hNl : N ≤ 96 := by rw [← HN.out]; exact Nat.le_trans (Nat.mul_le_mul hc6 hs16) (by decide)
        clear hTx HM HR HC HT2 HN
        generalize W1.heap.size = ga at *
        generalize hfr : c * secret.size = fr at *
        clear hfr
        obtain ⟨z, hz⟩ : ∃ z, c + 1 = z := ⟨_, rfl⟩
        have Hz : Hid (c + 1 = z) := hz
        rw [hz] at HSS
        have hzi : (c : Int) + 1 = (z : Int) := by omega
        have hz6 : z < 256 := by omega
        clear hz
        obtain ⟨W3, hW3⟩ : ∃ x, x = wr := ⟨_, rfl⟩
        subst hW3
        obtain ⟨vo, hvo⟩ : ∃ x, x = u10 := ⟨_, rfl⟩
        subst hvo
        have HO : Hid (OutI ga N W2 vo (splitL secret salt m c) W3) := hout
        have HR0 : Hid (RowA secret salt m z ga N fr W3 0 W3) := by
          obtain ⟨f, hf⟩ := hout.row
          exact ⟨⟨f, hf, fun j hj => by omega⟩, Wrote.refl _ _⟩
        have hgaz : ga < W3.heap.size := by obtain ⟨f, hf⟩ := hout.row; exact hf.lt
        clear hout
        go_wp2_with fail
        clear hcell
        go_loopw [12, 38] (fun r i x => ∃ k : Nat, k ≤ secret.size ∧ i = .int .i64 (k : Nat) ∧ r = .slice (some ⟨ga, fr, none⟩) k secret.size ∧ RowA secret salt m z ga N fr W3 k x) (fun _ i _ => secret.size - (intOf i).toNat)
        case atStart => exact ⟨0, Nat.zero_le _, rfl, rfl, HR0.out⟩
        case round =>
          clear HR0
          obtain ⟨k, hk, rfl, rfl, hra⟩ := hrel
          by_cases hkt : k < secret.size
          · have hki : (k : Int) < (secret.size : Int) := by omega
            have HA : Hid (RowA secret salt m z ga N fr W3 k wr) := hra
            have HB : Hid (∀ W, Wrote (fun k => k = ga) W3 W → Calls Tryd.prog 34 #[.string secret, .slice am m cm, .int .i64 (k : Nat), .int .i64 (z : Nat)] W fun e w' => e = .returned (.int .u8 (shareN secret salt m z k : Nat)) ∧ Below W.heap.size W w') := fun W hW =>
              L5.byte_impl secret salt m z k am cm W hz6 hkt hs16 hm5 (HTx.out.wrote hW (fun g hg hs => HTB.out g hg hs))
            have HST : Hid (∀ x, RowA secret salt m z ga N fr W3 k x → RowA secret salt m z ga N fr W3 (k + 1) (x.setCell ⟨ga, fr + k, none⟩ (.int .u8 (shareN secret salt m z k : Nat)))) := fun x hx => hx.step
            have HFz : Hid (∀ x, RowA secret salt m z ga N fr W3 k x → (x.cell? ⟨ga, fr + k, none⟩).isSome = true ∧ x.frozen? ⟨ga, fr + k, none⟩ = false) := fun x hx => by
              obtain ⟨f, h1, _⟩ := hx.row
              exact ⟨isSome_of (h1.cell (by omega)), h1.frozen _⟩
            clear hra
            generalize shareN secret salt m z k = y at *
            go_wp2_with fail
            refine (HB.out _ HA.out.wrote).mono ?_
            rintro e w2 ⟨rfl, hb2⟩
            have A2 : Hid (RowA secret salt m z ga N fr W3 k (w2.alloc (.cells #[.int .u8 (y : Nat)] 5))) := (HA.out.below hb2).below (albel _ _)
            have hsr := Src.ofSlice (P := Tryd.prog) (w := w2.alloc (.cells #[.int .u8 (y : Nat)] 5)) (size := 1) Tryd.underlying22 ⟨w2.heap.size, 0, none⟩ 1 1 [.int .u8 (y : Nat)] rfl (one_u8 w2 y _) (by simp [Value.oneCell'])
            clear hb2
            go_wp2_with (first
              | (at_builtin; refine wpList_append_room1 _ (by rfl) _ _ 22 22 (by rfl) 5 (.int .u8 0) 1 Tryd.underlying22 C0.info_u8 ga fr k secret.size (by rfl) _ (by rfl) 1 [.int .u8 (y : Nat)] hsr (by omega) (fun j hj => by simp at hj; subst hj; exact (HFz.out _ A2.out).1) (fun j hj => by simp at hj; subst hj; exact (HFz.out _ A2.out).2) ?_))
            clear hsr
            have HX : Hid (RowA secret salt m z ga N fr W3 (k + 1) ((w2.alloc (.cells #[.int .u8 (y : Nat)] 5)).setCell ⟨ga, fr + k, none⟩ (.int .u8 (y : Nat)))) := HST.out _ A2.out
            go_wp2
            exact ⟨⟨k + 1, hkt, by go_num, rfl, HX.out⟩, by simp [intOf]; omega⟩
          · obtain rfl : k = secret.size := by omega
            have hconv := conv_at hra hle
            have G3 : Hid (OutI ga N W2 vo (splitL secret salt m c) wr) := by
              obtain ⟨f, h1, _⟩ := hra.row
              exact ⟨HO.out.own.touch hra.wrote (fun g hg hs => by have h2 := (HO.out.own.lt g hg).1; have h3 : g = ga := hs; omega), HO.out.wrote.trans (hra.wrote.mono (fun k hk => hk)), ⟨f, h1⟩⟩
            obtain ⟨sv, hst⟩ : ∃ s : ByteArray, (⟨(shareL secret salt m z).toArray⟩ : ByteArray) = s := ⟨_, rfl⟩
            rw [hst] at hconv
            have HSE : Hid (splitL secret salt m (c + 1) = splitL secret salt m c ++ [((z : Int), sv)]) := by
              unfold Hid; rw [Hz.out, HSS.out, hst]
            have G4 : Hid (OutI ga N W2 vo (splitL secret salt m c) (wr.alloc (.cells #[.int .i64 (z : Nat), .string sv] 33))) := by
              obtain ⟨f, h1⟩ := G3.out.row
              exact ⟨G3.out.own.below (albel _ _), wrote_below G3.out.wrote (albel _ _), ⟨f, h1.of_block ((albel wr _).block _ h1.lt)⟩⟩
            clear hra hst HSS
            generalize splitL secret salt m c = L1 at *
            go_wp2_with (first
              | (at_builtin; refine NU.list_app (by rfl) _ _ 25 33 (by rfl) W2.heap.size (.agg #[.int .i64 0, .string ⟨#[]⟩]) 2 24 Tryd.underlying25 info_share (by rfl) (by decide) (by decide) vo _ _ (by rfl) G4.out.own (by have := HSn.out; omega) ⟨wr.heap.size, 0, none⟩ 1 [.int .i64 (z : Nat), .string sv] (by rfl) (by rfl) (one_share _ _ _ _) (by simp [Value.oneCell']) G4.out.wrote.size ?_; intro gg cap1 xn hown1 hgrow hat hlt1))
            have HE : Hid (OutI ga N W2 (.slice (some ⟨gg, 0, none⟩) (L1.length + 1) cap1) (splitL secret salt m (c + 1)) xn) := by
              obtain ⟨f, h1⟩ := G4.out.row
              refine ⟨by rw [HSE.out]; exact OShares.snoc hown1, wrote_grown G4.out.wrote hgrow (fun k hk => (G4.out.own.lt k hk).1), ⟨f, h1.of_block (hgrow.block _ h1.lt (fun e => by have := (G4.out.own.lt _ e.symm).1; omega))⟩⟩
            clear hown1 hgrow hat hlt1
            go_wp2
            go_roundw
            case rel => exact ⟨c + 1, by omega, by go_num, HE.out⟩
            case measure => simp [intOf]; omega
      · obtain rfl : c = cn := by omega
        have HF : Hid (∃ a cap, u10 = .slice a c cap ∧ OShares w.heap.size wr (.slice a c cap) (splitL secret salt m c) ∧ Below w.heap.size w wr) := by
          have h := hout.own
          have hl := splitL_length secret salt m c
          have hb2 : Below w.heap.size w W2 := HM.out.2.trans (HR.out.2.2.mono HM.out.2.size)
          have hbw : Below w.heap.size w wr := hb2.trans (hout.wrote.below hb2.size (fun k hk => by have h1 : k = W1.heap.size := hk; have h2 := HM.out.2.size; omega))
          rcases h.2 with ⟨h1, h0⟩ | ⟨g, cap, cur, h1, _⟩
          · omega
          · rw [hl] at h1
            exact ⟨_, cap, h1, h1 ▸ (h.mono hb2.size), hbw⟩
        clear hout
        obtain ⟨a, cap, rfl, hF1, hF2⟩ := HF.out
        have HF' : Hid (OShares w.heap.size wr (.slice a c cap) (splitL secret salt m c) ∧ Below w.heap.size w wr) := ⟨hF1, hF2⟩
        clear HF hF1 hF2
        go_wp2
        go_ret
        exact ⟨a, cap, rfl, HF'.out.1, HF'.out.2⟩
end Go.Proofs.YtianmmonkllhpaaDoor.L7
