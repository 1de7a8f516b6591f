/-
  What is split, in the specification.
-/
import Derived.Test.YtianmmonkllhpaaDoorST
import Derived.Test.YtianmmonkllhpaaDoorC1
import Derived.OwnWalk
namespace Go.Proofs.YtianmmonkllhpaaDoor.J6
open Go.RowKit
open Go.Proofs.YtianmmonkllhpaaDoor.C0 Go.Proofs.YtianmmonkllhpaaDoor.HB Go.Proofs.YtianmmonkllhpaaDoor.NU Go.Proofs.YtianmmonkllhpaaDoor.ST
open Go.Proofs.YtianmmonkllhpaaDoor.SH (Sh Shares OShares Wrote cp)
open Go.Proofs.YtianmmonkllhpaaDoor.K3 (byt bytesOf)
open Go.Proofs.YtianmmonkllhpaaDoor.J0 (xor_i64)

theorem put_size (n : Int) : (Mb.putNum n).length ≤ 10 := (Mb.leb_len 9 (Mb.foldU n)).2
/-- Texts of the call's own, and what lies below. -/
structure GroT (B : Nat) (w : World) (t : Value) (l : List ByteArray) (x : World) : Prop where
  own : OTxts B x t l
  bel : Below B w x
  size : B ≤ x.heap.size
theorem GroT.below {B : Nat} {w x y : World} {t : Value} {l : List ByteArray} (h : GroT B w t l x) (hb : Below x.heap.size x y) : GroT B w t l y :=
  ⟨own_below h.own hb, h.bel.trans (hb.mono h.size), Nat.le_trans h.size hb.size⟩
/-- Shares made so far, of the call's own, beside the texts that hide. -/
structure OutS (B : Nat) (w : World) (vm : Value) (ml : List ByteArray) (o : Value) (l : List Sh) (x : World) : Prop where
  own : OShares B x o l
  bel : Below B w x
  size : B ≤ x.heap.size
  txts : Txts x vm ml
  apart : ∀ g, vm.ownBlock = some g → some g ≠ o.ownBlock
  vlt : ∀ g, vm.ownBlock = some g → g < x.heap.size
theorem OutS.below {B : Nat} {w x y : World} {vm : Value} {ml : List ByteArray} {o : Value} {l : List Sh} (h : OutS B w vm ml o l x) (hb : Below x.heap.size x y) : OutS B w vm ml o l y :=
  ⟨h.own.below hb, h.bel.trans (hb.mono h.size), Nat.le_trans h.size hb.size, h.txts.below hb, h.apart, fun g hg => Nat.lt_of_lt_of_le (h.vlt g hg) hb.size⟩
/-- The bytes of a share, so far, in a row that was made at a world. -/
def RowB (secret salt : ByteArray) (m x : Nat) (w : World) (k : Nat) (y : World) : Prop :=
  ∃ f, y.rowIs w.heap.size 5 secret.size f ∧ (∀ j, j < k → f j = .int .u8 (shareN secret salt m x j : Nat)) ∧ Below w.heap.size w y
theorem RowB.step {secret salt : ByteArray} {m x k : Nat} {w y : World} (h : RowB secret salt m x w k y) :
    RowB secret salt m x w (k + 1) (y.setCell ⟨w.heap.size, k, none⟩ (.int .u8 (shareN secret salt m x k : Nat))) := by
  obtain ⟨f, h1, h2, h3⟩ := h
  refine ⟨_, h1.set _ _, fun j hj => ?_, h3.setCell (Nat.le_refl _) _⟩
  show (if j = k then _ else f j) = _
  by_cases e : j = k
  · rw [if_pos e, e]
  · rw [if_neg e]; exact h2 j (by omega)
theorem conv_row {secret salt : ByteArray} {m x : Nat} {w y : World} (h : RowB secret salt m x w secret.size y) :
    (convert 22 9 (.slice (some ⟨w.heap.size, 0, none⟩) secret.size secret.size)).run Tryd.prog y = .ok (.string ⟨(shareL secret salt m x).toArray⟩) y := by
  obtain ⟨f, h1, h2, _⟩ := h
  have hl := shareL_length secret salt m x
  have := run_convert_bytes_back (P := Tryd.prog) y 22 9 5 ⟨w.heap.size, 0, none⟩ secret.size (shareL secret salt m x) Tryd.underlying22 Tryd.underlying5 Tryd.underlying9 (fun j hj => by
    have hj' : j < secret.size := by omega
    rw [NU.add0, Nat.zero_add, h1.cell hj', h2 j hj']
    have := shareN_lt secret salt m x j
    simp [shareL, UInt8.toNat_ofNat']
    omega)
  rw [hl] at this
  exact this
set_option maxRecDepth 100000 in
set_option maxHeartbeats 3200000 in
theorem split_spec (secret salt : ByteArray) (need cards : Nat) (w : World) (hs1 : 1 ≤ secret.size) (hs : secret.size ≤ 16) (hn1 : 1 ≤ need) (hn : need ≤ cards) (hc : cards ≤ 6) (hsa : salt.size ≤ 64) :
    Calls Tryd.prog 35 #[.string secret, .int .i64 (need : Nat), .int .i64 (cards : Nat), .string salt] w fun e w' => ∃ a cap, e = .returned (.slice a cards cap) ∧ OShares w.heap.size w' (.slice a cards cap) (splitL secret salt (need - 1) cards) ∧ Below w.heap.size w w' := by
  obtain ⟨m, hm⟩ : ∃ m, need = m + 1 := ⟨need - 1, by omega⟩
  have HN : Hid (need = m + 1) := hm
  have hm5 : m ≤ 5 := by omega
  rw [show need - 1 = m by omega]
  clear hm
  have hmk := run_make_row' (P := Tryd.prog) 22 5 (.int .u8 0) 1 Tryd.underlying22 info_u8 rfl .i64 .i64 secret.size (by omega) (by omega)
  have O0 : Hid (OShares w.heap.size (w.alloc (.cells #[] 33)) (.slice (some ⟨w.heap.size, 0, none⟩) 0 0) []) := World.ownsRow_lit w #[] 0 (Nat.le_refl _) (by decide) rfl
  have T0 : Hid (OTxts (w.heap.size + 1) ((w.alloc (.cells #[] 33)).alloc (.cells #[] 9)) (.slice (some ⟨w.heap.size + 1, 0, none⟩) 0 0) []) := by
    have := World.ownsRow_lit (w.alloc (.cells #[] 33)) (e := 9) (size := 1) (base := w.heap.size + 1) #[] 0 (by rw [asz]; exact Nat.le_refl _) (by decide) rfl
    rw [asz] at this
    exact this
  obtain ⟨W1, hW1⟩ : ∃ x, w.alloc (.cells #[] 33) = x := ⟨_, rfl⟩
  have Z1 : Hid (W1.heap.size = w.heap.size + 1) := by unfold Hid; rw [← hW1]; exact asz _ _
  have B1 : Hid (Below w.heap.size w W1) := by rw [← hW1]; exact albel _ _
  rw [hW1] at O0 T0
  have G0 : Hid (GroT (w.heap.size + 1) W1 (.slice (some ⟨w.heap.size + 1, 0, none⟩) 0 0) (masks salt 0) (W1.alloc (.cells #[] 9))) := by
    have := albel W1 (.cells #[] 9)
    rw [Z1.out] at this
    exact ⟨T0.out, this, by rw [asz, Z1.out]; omega⟩
  go_enter Tryd.func35, Tryd.ntmps35
  go_wp2_with fail
  clear hW1 T0
  go_loopw [10, 11] (fun t j x => ∃ q : Nat, q ≤ m ∧ j = .int .i64 ((q + 1 : Nat) : Int) ∧ GroT (w.heap.size + 1) W1 t (masks salt q) x) (fun _ j _ => need - (intOf j).toNat)
  case atStart => exact ⟨0, Nat.zero_le _, rfl, by rw [Z1.out]; exact G0.out⟩
  case round =>
    clear G0
    obtain ⟨q, hq, rfl, hgro⟩ := hrel
    by_cases hqt : q < m
    · have hq1 : ((q + 1 : Nat) : Int) < (need : Int) := by have := HN.out; omega
      have HG : Hid (GroT (w.heap.size + 1) W1 u10 (masks salt q) wr) := hgro
      have HT : Hid (masks salt (q + 1) = masks salt q ++ [maskT salt q]) := masks_succ salt q
      have HTn : Hid ((masks salt q).length = q) := masks_length salt q
      have HM : Hid ((⟨(Ms.mac (bytesOf salt) (bytesOf ⟨(Mb.putNum ((q + 1 : Nat) : Int)).toArray⟩)).toArray⟩ : ByteArray) = maskT salt q) := by unfold Hid maskT; rw [KA.of_mk]
      obtain ⟨pt, hpt⟩ : ∃ x : ByteArray, (⟨(Mb.putNum ((q + 1 : Nat) : Int)).toArray⟩ : ByteArray) = x := ⟨_, rfl⟩
      have hps : pt.size ≤ 8000 := by rw [← hpt, KA.size_mk]; have := put_size ((q + 1 : Nat) : Int); omega
      rw [hpt] at HM
      clear hgro
      obtain ⟨z, hz⟩ : ∃ z, q + 1 = z := ⟨_, rfl⟩
      have Hz : Hid (q + 1 = z) := hz
      rw [hz] at hq1 hpt ⊢
      have hzl : z ≤ 6 := by omega
      clear hz
      go_wp2_with fail
      refine (C1.put_spec (z : Int) _ (by omega) (by omega)).mono ?_
      rintro e w2 ⟨rfl, hb2⟩
      rw [hpt]
      go_wp2_with fail
      refine (KA.mac_spec salt pt _ (by omega) hps).mono ?_
      rintro e w3 ⟨rfl, hb3⟩
      rw [HM.out]
      have G3 : Hid (GroT (w.heap.size + 1) W1 u10 (masks salt q) w3) := (HG.out.below hb2).below hb3
      have G4 : Hid (GroT (w.heap.size + 1) W1 u10 (masks salt q) (w3.alloc (.cells #[.string (maskT salt q)] 9))) := G3.out.below (albel _ _)
      clear hb2 hb3 hpt
      generalize maskT salt q = mt at *
      generalize masks salt q = L1 at *
      go_wp2_with (first
        | (at_builtin; refine NU.list_app (by rfl) _ _ 50 9 (by rfl) (w.heap.size + 1) (.string ⟨#[]⟩) 1 16 Tryd.underlying50 info_str (by rfl) (by decide) (by decide) u10 _ _ (by rfl) G4.out.own (by have := HTn.out; omega) ⟨w3.heap.size, 0, none⟩ 1 [.string mt] (by rfl) (by rfl) (one_str _ _ _) (by simp [Value.oneCell']) G4.out.size ?_; intro gg cap1 xn hown1 hgrow hat hlt1))
      have HE : Hid (GroT (w.heap.size + 1) W1 (.slice (some ⟨gg, 0, none⟩) (L1.length + 1) cap1) (masks salt (q + 1)) xn) :=
        ⟨by rw [HT.out]; exact OTxts.snoc hown1, grown_bel G4.out.bel G4.out.own hgrow G4.out.size, Nat.le_trans G4.out.size hgrow.size⟩
      clear hown1 hgrow hat hlt1
      go_wp2
      go_roundw
      case rel => exact ⟨q + 1, by omega, by rw [Hz.out]; go_num, HE.out⟩
      case measure => simp [intOf]; omega
    · obtain rfl : q = m := by omega
      obtain ⟨W2, hW2⟩ : ∃ x, x = wr := ⟨_, rfl⟩
      subst hW2
      obtain ⟨vm, hvm⟩ : ∃ x, x = u10 := ⟨_, rfl⟩
      subst hvm
      obtain ⟨am, cm, hvm, -, -⟩ := hgro.own.txts (by rw [masks_length]; omega)
      rw [masks_length] at hvm
      subst hvm
      have HO0 : Hid (OutS w.heap.size w (.slice am q cm) (masks salt q) (.slice (some ⟨w.heap.size, 0, none⟩) 0 0) (splitL secret salt q 0) W2) := by
        have hb : Below W1.heap.size W1 W2 := by rw [Z1.out]; exact hgro.bel
        refine ⟨O0.out.below hb, B1.out.trans (hb.mono B1.out.size), Nat.le_trans (Nat.le_succ _) hgro.size, hgro.own.txts (by rw [masks_length]; omega), fun g hg e => ?_, fun g hg => ?_⟩
        · have h1 := (hgro.own.lt g hg).1
          have h2 : g = w.heap.size := by simpa [Value.ownBlock] using e
          omega
        · exact (hgro.own.lt g hg).2
      have hl1 : ¬ ((q + 1 : Nat) : Int) < (need : Int) := by have := HN.out; omega
      clear hgro O0
      go_wp2_with fail
      go_loopw [9, 12] (fun o j x => ∃ c : Nat, c ≤ cards ∧ j = .int .i64 ((c + 1 : Nat) : Int) ∧ OutS w.heap.size w (.slice am q cm) (masks salt q) o (splitL secret salt q c) x) (fun _ j _ => cards + 1 - (intOf j).toNat)
      case atStart => exact ⟨0, Nat.zero_le _, rfl, HO0.out⟩
      case round =>
        clear HO0
        obtain ⟨c, hcc, rfl, hout⟩ := hrel
        by_cases hct : c < cards
        · obtain ⟨z, hz⟩ : ∃ z, c + 1 = z := ⟨_, rfl⟩
          have Hz : Hid (c + 1 = z) := hz
          have HSS : Hid (splitL secret salt q (c + 1) = splitL secret salt q c ++ [(((c + 1 : Nat) : Int), (⟨(shareL secret salt q (c + 1)).toArray⟩ : ByteArray))]) := splitL_succ secret salt q c
          have HSn : Hid ((splitL secret salt q c).length = c) := splitL_length secret salt q c
          rw [hz] at HSS ⊢
          have hz6 : z ≤ 6 := by omega
          have hzc : (z : Int) ≤ (cards : Int) := by omega
          clear hz
          obtain ⟨W3, hW3⟩ : ∃ x, x = wr := ⟨_, rfl⟩
          subst hW3
          obtain ⟨vo, hvo⟩ : ∃ x, x = u9 := ⟨_, rfl⟩
          subst hvo
          have HO : Hid (OutS w.heap.size w (.slice am q cm) (masks salt q) vo (splitL secret salt q c) W3) := hout
          have hmkw := hmk W3
          have HR0 : Hid (RowB secret salt q z W3 0 (W3.alloc (.cells (madeCells #[Value.int .u8 0] secret.size) 5))) := ⟨_, World.rowIs_made W3 (.int .u8 0) secret.size 5, fun j hj => by omega, albel W3 _⟩
          clear hout
          go_wp2_with fail
          clear hmkw
          go_loopw [14] (fun i x => ∃ k : Nat, k ≤ secret.size ∧ i = .int .i64 (k : Nat) ∧ RowB secret salt q z W3 k x) (fun i _ => secret.size - (intOf i).toNat)
          case atStart => exact ⟨0, Nat.zero_le _, rfl, HR0.out⟩
          case round =>
            clear HR0
            obtain ⟨k, hk, rfl, hrow⟩ := hrel
            by_cases hkt : k < secret.size
            · have hki : (k : Int) < (secret.size : Int) := by omega
              have hks := byteN_get secret k hkt
              have hbl := byteN_lt secret k
              have hw64 : IntKind.i64.wrap ((byteN secret k : Nat) : Int) = ((byteN secret k : Nat) : Int) := by rw [IntKind.wrap_i64]; omega
              have HRow : Hid (RowB secret salt q z W3 k wr) := hrow
              obtain ⟨W4, hW4⟩ : ∃ x, x = wr := ⟨_, rfl⟩
              subst hW4
              have HTx : Hid (Txts W4 (.slice am q cm) (masks salt q)) := HO.out.txts.below hrow.choose_spec.2.2
              have HRES : Hid (Gf.shB (byteN secret k) (fun j => byteN (maskT salt j) k) z q = shareN secret salt q z k) := rfl
              have hsl := shareN_lt secret salt q z k
              generalize hbs : byteN secret k = bs at *
              clear hrow
              have HS : Hid (∀ j, Gf.shB bs (fun j => byteN (maskT salt j) k) z j < 256) := fun j => shB_lt _ _ _ hbl (fun _ => byteN_lt _ _) j
              go_wp2_with fail
              go_loop [15, 16, 17] (fun n p i => ∃ j : Nat, j ≤ q ∧ i = .int .i64 (j : Nat) ∧ n = .int .i64 (Gf.shB bs (fun j => byteN (maskT salt j) k) z j : Nat) ∧ p = .int .i64 (Gf.pX z j : Nat)) (fun _ _ i => q - (intOf i).toNat)
              case atStart => exact ⟨0, Nat.zero_le _, rfl, rfl, rfl⟩
              case round =>
                obtain ⟨j, hj, rfl, rfl, rfl⟩ := hrel
                have hTx := HTx.out
                have hsj := HS.out j
                by_cases hjt : j < q
                · obtain ⟨am', cm', he, hlm, hcm⟩ := hTx
                  simp only [Value.slice.injEq] at he
                  obtain ⟨rfl, -, -⟩ := he
                  obtain ⟨b, off, rfl, hb, hcell⟩ := hcm (by rw [masks_length]; omega)
                  have hcj := hcell j (by rw [masks_length]; exact hjt)
                  rw [masks_at salt q j hjt] at hcj
                  have hji : (j : Int) < (q : Int) := by omega
                  have hms := maskT_size salt j
                  have hkm : k < (maskT salt j).size := by omega
                  have hkmi : (k : Int) < ((maskT salt j).size : Int) := by omega
                  have hmg := byteN_get (maskT salt j) k hkm
                  have hml := byteN_lt (maskT salt j) k
                  have hp0 := pX_lt z j
                  have hp1 := pX_lt z (j + 1)
                  have HP : Hid (Gf.mul (Gf.pX z j) z = Gf.pX z (j + 1)) := rfl
                  have HN2 : Hid (Gf.shB bs (fun j => byteN (maskT salt j) k) z (j + 1) = Gf.shB bs (fun j => byteN (maskT salt j) k) z j ^^^ Gf.mul (byteN (maskT salt j) k) (Gf.pX z (j + 1))) := rfl
                  have hmm : Gf.mul (byteN (maskT salt j) k) (Gf.pX z (j + 1)) < 256 := Gf.mul_lt _ hml
                  have hx := xor_i64 (Gf.shB bs (fun j => byteN (maskT salt j) k) z j) (Gf.mul (byteN (maskT salt j) k) (Gf.pX z (j + 1))) (by omega) (by omega)
                  have hwm : IntKind.i64.wrap ((byteN (maskT salt j) k : Nat) : Int) = ((byteN (maskT salt j) k : Nat) : Int) := by rw [IntKind.wrap_i64]; omega
                  have HM1 : Hid (∀ W, Calls Tryd.prog 49 #[.int .i64 (Gf.pX z j : Nat), .int .i64 (z : Nat)] W fun e w' => e = .returned (.int .i64 (Gf.mul (Gf.pX z j) z : Nat)) ∧ W = w') := fun W => J0.mul_spec _ _ W hp0 (by omega)
                  have HM2 : Hid (∀ W, Calls Tryd.prog 49 #[.int .i64 (byteN (maskT salt j) k : Nat), .int .i64 (Gf.pX z (j + 1) : Nat)] W fun e w' => e = .returned (.int .i64 (Gf.mul (byteN (maskT salt j) k) (Gf.pX z (j + 1)) : Nat)) ∧ W = w') := fun W => J0.mul_spec _ _ W hml hp1
                  clear hcm hcell hlm
                  generalize Gf.mul (byteN (maskT salt j) k) (Gf.pX z (j + 1)) = mm at *
                  generalize Gf.shB bs (fun j => byteN (maskT salt j) k) z j = sj at *
                  generalize hmj : byteN (maskT salt j) k = mb at *
                  generalize maskT salt j = mt at *
                  go_wp2_with fail
                  refine (HM1.out _).mono ?_
                  rintro e w5 ⟨rfl, rfl⟩
                  rw [HP.out]
                  go_wp2_with fail
                  refine (HM2.out _).mono ?_
                  rintro e w5 ⟨rfl, rfl⟩
                  go_wp2
                  go_round
                  case rel => exact ⟨j + 1, by omega, by go_num, by rw [HN2.out], rfl⟩
                  case measure => simp [intOf]; omega
                · obtain rfl : j = q := by omega
                  clear hTx
                  rw [HRES.out]
                  obtain ⟨f, r1, r2, r3⟩ := HRow.out
                  obtain ⟨o, ho⟩ : ∃ o, W4.cell? ⟨W3.heap.size, k, none⟩ = some o := ⟨_, r1.cell hkt⟩
                  have hfr := r1.frozen k
                  have HNX : Hid (RowB secret salt j z W3 (k + 1) (W4.setCell ⟨W3.heap.size, k, none⟩ (.int .u8 (shareN secret salt j z k : Nat)))) := HRow.out.step
                  have hw8 : IntKind.u8.wrap ((shareN secret salt j z k : Nat) : Int) = ((shareN secret salt j z k : Nat) : Int) := by rw [IntKind.wrap_u8]; omega
                  clear r1 r2 r3 HRES hsj
                  generalize shareN secret salt j z k = sv at *
                  go_wp2
                  go_roundw
                  case rel => exact ⟨k + 1, by omega, by go_num, HNX.out⟩
                  case measure => simp [intOf]; omega
            · obtain rfl : k = secret.size := by omega
              have hconv := conv_row hrow
              have G3 : Hid (OutS w.heap.size w (.slice am q cm) (masks salt q) vo (splitL secret salt q c) wr) := HO.out.below hrow.choose_spec.2.2
              obtain ⟨st, hst⟩ : ∃ s : ByteArray, (⟨(shareL secret salt q z).toArray⟩ : ByteArray) = s := ⟨_, rfl⟩
              rw [hst] at hconv
              have HST : Hid ((⟨(shareL secret salt q z).toArray⟩ : ByteArray) = st) := hst
              have G4 : Hid (OutS w.heap.size w (.slice am q cm) (masks salt q) vo (splitL secret salt q c) (wr.alloc (.cells #[.int .i64 (z : Nat), .string st] 33))) := G3.out.below (albel _ _)
              clear hrow hst
              have HSE : Hid (splitL secret salt q (c + 1) = splitL secret salt q c ++ [((z : Int), st)]) := by
                unfold Hid; rw [Hz.out, HSS.out, HST.out]
              clear HSS
              generalize splitL secret salt q c = L1 at *
              go_wp2_with (first
                | (at_builtin; refine NU.list_app (by rfl) _ _ 25 33 (by rfl) w.heap.size (.agg #[.int .i64 0, .string ⟨#[]⟩]) 2 24 Tryd.underlying25 info_share (by rfl) (by decide) (by decide) vo _ _ (by rfl) G4.out.own (by have := HSn.out; omega) ⟨wr.heap.size, 0, none⟩ 1 [.int .i64 (z : Nat), .string st] (by rfl) (by rfl) (one_share _ _ _ _) (by simp [Value.oneCell']) G4.out.size ?_; intro gg cap1 xn hown1 hgrow hat hlt1))
              have HE : Hid (OutS w.heap.size w (.slice am q cm) (masks salt q) (.slice (some ⟨gg, 0, none⟩) (L1.length + 1) cap1) (splitL secret salt q (c + 1)) xn) := by
                refine ⟨by rw [HSE.out]; exact OShares.snoc hown1, grown_bel G4.out.bel G4.out.own hgrow G4.out.size, Nat.le_trans G4.out.size hgrow.size, G4.out.txts.grown hgrow G4.out.apart, fun g hg e => ?_, fun g hg => Nat.lt_of_lt_of_le (G4.out.vlt g hg) hgrow.size⟩
                have e' : g = gg := by simpa [Value.ownBlock] using e
                subst e'
                rcases hat with h1 | h1
                · exact G4.out.apart g hg h1.symm
                · have h2 := G4.out.vlt g hg
                  omega
              clear hown1 hgrow hat hlt1
              go_wp2
              go_roundw
              case rel => exact ⟨c + 1, by omega, by rw [Hz.out]; go_num, HE.out⟩
              case measure => simp [intOf]; omega
        · obtain rfl : c = cards := by omega
          have hcn : ¬ ((c + 1 : Nat) : Int) ≤ (c : Int) := by omega
          have HF : Hid (∃ a cap, u9 = .slice a c cap ∧ OShares w.heap.size wr (.slice a c cap) (splitL secret salt q c) ∧ Below w.heap.size w wr) := by
            have h := hout.own
            have hl := splitL_length secret salt q c
            rcases h.2 with ⟨h1, h0⟩ | ⟨g, cap, cur, h1, _⟩
            · omega
            · rw [hl] at h1
              exact ⟨_, cap, h1, h1 ▸ h, hout.bel⟩
          clear hout
          obtain ⟨a, cap, rfl, hF1, hF2⟩ := HF.out
          have HF' : Hid (OShares w.heap.size wr (.slice a c cap) (splitL secret salt q c) ∧ Below w.heap.size w wr) := ⟨hF1, hF2⟩
          clear HF hF1 hF2
          go_wp2
          go_ret
          exact ⟨a, cap, rfl, HF'.out.1, HF'.out.2⟩
end Go.Proofs.YtianmmonkllhpaaDoor.J6
