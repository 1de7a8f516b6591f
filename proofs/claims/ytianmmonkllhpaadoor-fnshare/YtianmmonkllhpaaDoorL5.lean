/-
  The texts that hide, and a share's byte, in the program.
-/
import Derived.Test.YtianmmonkllhpaaDoorJ6
import Derived.Test.YtianmmonkllhpaaDoorL3
namespace Go.Proofs.YtianmmonkllhpaaDoor.L5
open Go.RowKit
open Go.Proofs.YtianmmonkllhpaaDoor.C0 Go.Proofs.YtianmmonkllhpaaDoor.HB Go.Proofs.YtianmmonkllhpaaDoor.NU Go.Proofs.YtianmmonkllhpaaDoor.ST
open Go.Proofs.YtianmmonkllhpaaDoor.K2 (Laid)
open Go.Proofs.YtianmmonkllhpaaDoor.K3 (bytesOf)
open Go.Proofs.YtianmmonkllhpaaDoor.J6 (GroT put_size)
open Go.Proofs.YtianmmonkllhpaaDoor.L3 (Gro)

set_option maxRecDepth 100000 in
set_option maxHeartbeats 1600000 in
theorem hiding_impl (salt : ByteArray) (need m : Nat) (w : World) (hm : need = m + 1) (hm5 : m ≤ 5) (hsa : salt.size ≤ 64) (hL : Laid w) :
    Calls Tryd.prog 32 #[.string salt, .int .i64 (need : Nat)] w fun e w' => ∃ a cap, e = .returned (.slice a m cap) ∧ OTxts w.heap.size w' (.slice a m cap) (masks salt m) ∧ Below w.heap.size w w' := by
  have HN : Hid (need = m + 1) := hm
  clear hm
  have G0 : Hid (GroT w.heap.size w (.slice none 0 0) (masks salt 0) w) := ⟨World.ownsRow_nil _ _ _ _, Below.refl _ _, Nat.le_refl _⟩
  go_enter Tryd.func32, Tryd.ntmps32
  go_wp2_with fail
  go_loopw [5, 6] (fun t j x => ∃ q : Nat, q ≤ m ∧ j = .int .i64 ((q + 1 : Nat) : Int) ∧ GroT w.heap.size w t (masks salt q) x) (fun _ j _ => need - (intOf j).toNat)
  case atStart => exact ⟨0, Nat.zero_le _, rfl, G0.out⟩
  case round =>
    clear G0
    obtain ⟨q, hq, rfl, hgro⟩ := hrel
    by_cases hqt : q < m
    · have hq1 : ((q + 1 : Nat) : Int) < (need : Int) := by have := HN.out; omega
      have HG : Hid (GroT w.heap.size w u5 (masks salt q) wr) := hgro
      have HT : Hid (masks salt (q + 1) = masks salt q ++ [maskT salt q]) := masks_succ salt q
      have HTn : Hid ((masks salt q).length = q) := masks_length salt q
      have HM : Hid ((⟨(Ms.mac (bytesOf salt) (bytesOf ⟨(Mb.putNum ((q + 1 : Nat) : Int)).toArray⟩)).toArray⟩ : ByteArray) = maskT salt q) := by unfold Hid maskT; rw [KA.of_mk]
      obtain ⟨pt, hpt⟩ : ∃ x : ByteArray, (⟨(Mb.putNum ((q + 1 : Nat) : Int)).toArray⟩ : ByteArray) = x := ⟨_, rfl⟩
      have hps : pt.size ≤ 8000 := by rw [← hpt, KA.size_mk]; have := put_size ((q + 1 : Nat) : Int); omega
      rw [hpt] at HM
      clear hgro
      obtain ⟨z, hz⟩ : ∃ z, q + 1 = z := ⟨_, rfl⟩
      have Hz : Hid (q + 1 = z) := hz
      rw [hz] at hq1 hpt ⊢
      have hzl : z ≤ 6 := by omega
      clear hz
      go_wp2_with fail
      refine (C1.put_impl (z : Int) _ (by omega) (by omega)).mono ?_
      rintro e w2 ⟨rfl, hb2⟩
      rw [hpt]
      have G2 : Hid (GroT w.heap.size w u5 (masks salt q) w2) := HG.out.below hb2
      go_wp2_with fail
      refine (KA.mac_impl0 salt pt _ (by omega) hps (hL.below G2.out.bel)).mono ?_
      rintro e w3 ⟨rfl, hb3⟩
      rw [HM.out]
      have G3 : Hid (GroT w.heap.size w u5 (masks salt q) w3) := G2.out.below hb3
      have G4 : Hid (GroT w.heap.size w u5 (masks salt q) (w3.alloc (.cells #[.string (maskT salt q)] 9))) := G3.out.below (albel _ _)
      clear hb2 hb3 hpt
      generalize maskT salt q = mt at *
      generalize masks salt q = L1 at *
      go_wp2_with (first
        | (at_builtin; refine NU.list_app (by rfl) _ _ 50 9 (by rfl) w.heap.size (.string ⟨#[]⟩) 1 16 Tryd.underlying50 info_str (by rfl) (by decide) (by decide) u5 _ _ (by rfl) G4.out.own (by have := HTn.out; omega) ⟨w3.heap.size, 0, none⟩ 1 [.string mt] (by rfl) (by rfl) (one_str _ _ _) (by simp [Value.oneCell']) G4.out.size ?_; intro gg cap1 xn hown1 hgrow hat hlt1))
      have HE : Hid (GroT w.heap.size w (.slice (some ⟨gg, 0, none⟩) (L1.length + 1) cap1) (masks salt (q + 1)) xn) :=
        ⟨by rw [HT.out]; exact OTxts.snoc hown1, grown_bel G4.out.bel G4.out.own hgrow G4.out.size, Nat.le_trans G4.out.size hgrow.size⟩
      clear hown1 hgrow hat hlt1
      go_wp2
      go_roundw
      case rel => exact ⟨q + 1, by omega, by rw [Hz.out]; go_num, HE.out⟩
      case measure => simp [intOf]; omega
    · obtain rfl : q = m := by omega
      have hl1 : ¬ ((q + 1 : Nat) : Int) < (need : Int) := by have := HN.out; omega
      have HF : Hid (∃ a cap, u5 = .slice a q cap ∧ OTxts w.heap.size wr (.slice a q cap) (masks salt q) ∧ Below w.heap.size w wr) := by
        have h := hgro.own
        have hl := masks_length salt q
        rcases h.2 with ⟨h1, h0⟩ | ⟨g, cap, cur, h1, _⟩
        · exact ⟨none, 0, by rw [h1, ← hl, h0], by have e : u5 = .slice none q 0 := (by rw [h1, ← hl, h0]); exact e ▸ h, hgro.bel⟩
        · rw [hl] at h1
          exact ⟨_, cap, h1, h1 ▸ h, hgro.bel⟩
      clear hgro
      obtain ⟨a, cap, rfl, hF1, hF2⟩ := HF.out
      have HF' : Hid (OTxts w.heap.size wr (.slice a q cap) (masks salt q) ∧ Below w.heap.size w wr) := ⟨hF1, hF2⟩
      clear HF hF1 hF2
      go_wp2
      go_ret
      exact ⟨a, cap, rfl, HF'.out.1, HF'.out.2⟩

/-- The terms of a share's byte. -/
def st (secret salt : ByteArray) (x i q : Nat) : List Nat := (List.range (q + 1)).map fun j => if j = 0 then byteN secret i else Gf.mul (byteN (maskT salt (j - 1)) i) (Gf.pX x j)
theorem st_length (secret salt : ByteArray) (x i q : Nat) : (st secret salt x i q).length = q + 1 := by simp [st]
theorem st_succ (secret salt : ByteArray) (x i q : Nat) : st secret salt x i (q + 1) = st secret salt x i q ++ [Gf.mul (byteN (maskT salt q) i) (Gf.pX x (q + 1))] := by
  unfold st
  rw [List.range_succ, List.map_append]
  simp
theorem st_at (secret salt : ByteArray) (x i q j : Nat) (h : j < q + 1) : (st secret salt x i q).getD j 0 = if j = 0 then byteN secret i else Gf.mul (byteN (maskT salt (j - 1)) i) (Gf.pX x j) := by simp [st, h]
theorem st_sum (secret salt : ByteArray) (x i q : Nat) : Gu.sm (fun j => (st secret salt x i q).getD j 0) (st secret salt x i q).length = shareN secret salt q x i := by
  rw [st_length]
  unfold shareN
  rw [Gu.shB_sm]
  exact Gu.sm_congr _ (fun j hj => st_at _ _ _ _ _ _ hj)
theorem st_lt (secret salt : ByteArray) (x i q j : Nat) (h : j < (st secret salt x i q).length) : (st secret salt x i q).getD j 0 < 256 := by
  rw [st_length] at h
  rw [st_at _ _ _ _ _ _ h]
  split
  · exact byteN_lt _ _
  · exact Gf.mul_lt _ (byteN_lt _ _)
set_option maxRecDepth 100000 in
set_option maxHeartbeats 1600000 in
theorem byte_impl (secret salt : ByteArray) (m x i : Nat) (a : Option Addr) (cap : Nat) (w : World) (hx : x < 256) (hi : i < secret.size) (hs : secret.size ≤ 16) (hm5 : m ≤ 5) (ht : Txts w (.slice a m cap) (masks salt m)) :
    Calls Tryd.prog 34 #[.string secret, .slice a m cap, .int .i64 (i : Nat), .int .i64 (x : Nat)] w fun e w' => e = .returned (.int .u8 (shareN secret salt m x i : Nat)) ∧ Below w.heap.size w w' := by
  have hii : (i : Int) < (secret.size : Int) := by omega
  have hks := byteN_get secret i hi
  have hbl := byteN_lt secret i
  have hw64 : IntKind.i64.wrap ((byteN secret i : Nat) : Int) = ((byteN secret i : Nat) : Int) := by rw [IntKind.wrap_i64]; omega
  have hrl := shareN_lt secret salt m x i
  have HRES : Hid (Gu.sm (fun j => (st secret salt x i m).getD j 0) (st secret salt x i m).length = shareN secret salt m x i) := st_sum secret salt x i m
  have G0 : Hid (Gro w.heap.size w (.slice (some ⟨w.heap.size, 0, none⟩) 1 1) (st secret salt x i 0) (w.alloc (.cells #[.int .i64 (byteN secret i : Nat)] 2))) :=
    ⟨World.ownsRow_lit w #[.int .i64 (byteN secret i : Nat)] 1 (Nat.le_refl _) (by decide) rfl, albel _ _, by rw [asz]; exact Nat.le_succ _⟩
  generalize shareN secret salt m x i = res at *
  generalize hbs : byteN secret i = bs at *
  go_enter Tryd.func34, Tryd.ntmps34
  go_wp2_with fail
  go_loopw [9, 10, 20] (fun t p j y => ∃ q : Nat, q ≤ m ∧ j = .int .i64 (q : Nat) ∧ p = .int .i64 (Gf.pX x q : Nat) ∧ Gro w.heap.size w t (st secret salt x i q) y) (fun _ _ j _ => m - (intOf j).toNat)
  case atStart => exact ⟨0, Nat.zero_le _, rfl, rfl, G0.out⟩
  case round =>
    clear G0
    obtain ⟨q, hq, rfl, rfl, hgro⟩ := hrel
    by_cases hqt : q < m
    · have hqi : (q : Int) < (m : Int) := by omega
      obtain ⟨a', cap', he, hlm, hcm⟩ := ht.below hgro.bel
      simp only [Value.slice.injEq] at he
      obtain ⟨rfl, -, -⟩ := he
      obtain ⟨b, off, rfl, hb, hcell⟩ := hcm (by rw [masks_length]; omega)
      have hcj := hcell q (by rw [masks_length]; exact hqt)
      rw [masks_at salt m q hqt] at hcj
      have hms := maskT_size salt q
      have hkm : i < (maskT salt q).size := by omega
      have hkmi : (i : Int) < ((maskT salt q).size : Int) := by omega
      have hmg := byteN_get (maskT salt q) i hkm
      have hml := byteN_lt (maskT salt q) i
      have hp0 := pX_lt x q
      have hp1 := pX_lt x (q + 1)
      have HP : Hid (Gf.mul (Gf.pX x q) x = Gf.pX x (q + 1)) := rfl
      have hwm : IntKind.i64.wrap ((byteN (maskT salt q) i : Nat) : Int) = ((byteN (maskT salt q) i : Nat) : Int) := by rw [IntKind.wrap_i64]; omega
      have HM1 : Hid (∀ W, Calls Tryd.prog 15 #[.int .i64 (Gf.pX x q : Nat), .int .i64 (x : Nat)] W fun e w' => e = .returned (.int .i64 (Gf.mul (Gf.pX x q) x : Nat)) ∧ W = w') := fun W => L0.mul_impl _ _ W hp0 hx
      have HM2 : Hid (∀ W, Calls Tryd.prog 15 #[.int .i64 (byteN (maskT salt q) i : Nat), .int .i64 (Gf.pX x (q + 1) : Nat)] W fun e w' => e = .returned (.int .i64 (Gf.mul (byteN (maskT salt q) i) (Gf.pX x (q + 1)) : Nat)) ∧ W = w') := fun W => L0.mul_impl _ _ W hml hp1
      have HG : Hid (Gro w.heap.size w u9 (st secret salt x i q) wr) := hgro
      have HT : Hid (st secret salt x i (q + 1) = st secret salt x i q ++ [Gf.mul (byteN (maskT salt q) i) (Gf.pX x (q + 1))]) := st_succ secret salt x i q
      have HTn : Hid ((st secret salt x i q).length = q + 1) := st_length secret salt x i q
      clear hgro hcm hcell hlm ht
      generalize Gf.mul (byteN (maskT salt q) i) (Gf.pX x (q + 1)) = mq at *
      generalize hmj : byteN (maskT salt q) i = mb at *
      generalize maskT salt q = mt at *
      generalize st secret salt x i q = L1 at *
      go_wp2_with fail
      refine (HM1.out _).mono ?_
      rintro e w5 ⟨rfl, rfl⟩
      rw [HP.out]
      go_wp2_with fail
      refine (HM2.out _).mono ?_
      rintro e w5 ⟨rfl, rfl⟩
      have G3 : Hid (Gro w.heap.size w u9 L1 (wr.alloc (.cells #[.int .i64 (mq : Nat)] 2))) := HG.out.below (albel _ _)
      go_wp2_with (first
        | (at_builtin; refine NU.list_app (by rfl) _ _ 48 2 (by rfl) w.heap.size (.int .i64 0) 1 8 Tryd.underlying48 NU.info_int (by rfl) (by decide) (by decide) u9 _ _ (by rfl) G3.out.own (by have := HTn.out; omega) ⟨wr.heap.size, 0, none⟩ 1 [.int .i64 (mq : Nat)] (by rfl) (by rfl) (one_i64 _ _ _) (by simp [Value.oneCell']) G3.out.size ?_; intro gg cap1 xn hown1 hgrow hat hlt1))
      have HE : Hid (Gro w.heap.size w (.slice (some ⟨gg, 0, none⟩) (L1.length + 1) cap1) (st secret salt x i (q + 1)) xn) :=
        ⟨by rw [HT.out]; exact ONums.of hown1, grown_bel G3.out.bel G3.out.own hgrow G3.out.size, Nat.le_trans G3.out.size hgrow.size⟩
      clear hown1 hgrow hat hlt1
      go_wp2
      go_roundw
      case rel => exact ⟨q + 1, by omega, by go_num, rfl, HE.out⟩
      case measure => simp [intOf]; omega
    · obtain rfl : q = m := by omega
      have HN : Hid (Nums wr u9 (st secret salt x i q)) := hgro.own.nums (by rw [st_length]; omega)
      have HB : Hid (Below w.heap.size w wr) := hgro.bel
      have HTL : Hid (∀ j, j < (st secret salt x i q).length → (st secret salt x i q).getD j 0 < 256) := fun j hj => st_lt _ _ _ _ _ _ hj
      have hw8 : IntKind.u8.wrap (res : Int) = (res : Int) := by rw [IntKind.wrap_u8]; omega
      clear hgro ht
      go_wp2_with fail
      refine (L1.sum_impl _ _ _ HN.out HTL.out).mono ?_
      rintro e x2 ⟨rfl, rfl⟩
      rw [HRES.out]
      go_wp2
      go_ret
      exact ⟨rfl, HB.out⟩
end Go.Proofs.YtianmmonkllhpaaDoor.L5
