/-
  The walk of the law on seals.
-/
import Derived.Test.YtmfghkoimfckjaaD3
import Derived.Test.YtmfghkoimfckjaaC8
import Derived.Deep.RegionWith
import Derived.Laws.StructEq
import Derived.Laws.BitsAllLaws
namespace Go.Proofs.Ytmfghkoimfckjaa.YSeal
open Go.RowKit
open Go.Proofs.Ytmfghkoimfckjaa.C0
open Go.Proofs.Ytmfghkoimfckjaa.D0

/-- What the bytes of a text look like in memory, right behind the conversion. -/
theorem bytes_world (w : World) (l : List UInt8) (cap n : Nat) (hn : l.length = n) :
    (∀ j (hj : j < l.length), (w.alloc (.cells (bytesRow ⟨l.toArray⟩ cap) 5 ((bytesRow ⟨l.toArray⟩ cap).size, (bytesRow ⟨l.toArray⟩ cap).size + 1))).drew.cell? ⟨w.heap.size, j, none⟩ = some (.int .u8 (l[j].toNat : Int))) ∧
    (∀ j, j < n → (w.alloc (.cells (bytesRow ⟨l.toArray⟩ cap) 5 ((bytesRow ⟨l.toArray⟩ cap).size, (bytesRow ⟨l.toArray⟩ cap).size + 1))).drew.frozen? ⟨w.heap.size, j, none⟩ = false) := by
  constructor
  · intro j hj
    show (w.alloc _).cell? _ = _
    rw [World.cell?_alloc_mark, bytesRow_at _ _ _ (by simpa using hj)]
    simp
  · intro j hj
    show (w.alloc _).frozen? _ = _
    rw [World.frozen?_alloc_mark]
    have : j < (bytesRow ⟨l.toArray⟩ cap).size := by
      simp [bytesRow]; omega
    simp; omega
theorem field_code (a : ByteArray) (b c : Int) (w : World) : (Instr.field 27 (.agg #[.string a, .int .i64 b, .int .i64 c]) 2).run Try.prog w = .ok (.int .i64 c) w := by kernel_rfl
theorem wrap_turn (r : Nat) (hr : r < 255) : IntKind.u8.wrap (IntKind.i64.wrap (1 + (r : Int))) = 1 + (r : Int) := by
  rw [IntKind.wrap_i64, IntKind.wrap_u8']; omega
theorem addr_at (g j : Nat) : (⟨g, 0, none⟩ : Addr).add j = ⟨g, j, none⟩ := by
  unfold Addr.add; split <;> simp_all
theorem xor_turn (a : UInt8) (r : Nat) (hr : r < 255) : bits .xor .u8 (a.toNat : Int) (1 + (r : Int)) = ((a ^^^ UInt8.ofNat (1 + r)).toNat : Int) ∧ a ^^^ UInt8.ofNat (1 + r) ≠ a := by
  have hb : (UInt8.ofNat (1 + r)).toNat = 1 + r := by simp [UInt8.toNat_ofNat']; omega
  constructor
  · have := u8_xor_nat a.toNat (1 + r) a.toNat_lt (by omega)
    rw [show ((1 + r : Nat) : Int) = 1 + (r : Int) by omega] at this
    rw [this, UInt8.toNat_xor, hb]
  · intro e
    have h1 := congrArg (fun x => a ^^^ x) e
    simp only [← UInt8.xor_assoc, UInt8.xor_self, UInt8.zero_xor] at h1
    have := congrArg UInt8.toNat h1
    rw [hb] at this
    simp at this

theorem crc_lt (t : ByteArray) : C5.crc t < 4294967296 := by
  unfold C5.crc
  split
  · omega
  · exact Mc.crcMore_lt 0 _ (by omega)
theorem more_on (t u : ByteArray) (h : t.size + u.size ≤ 8000) : C5.more (C5.crc t : Nat) u = C5.crc (t ++ u) := by
  have hl := crc_lt t
  have e1 : C5.crc t = Mc.crcMore 0 t.data.toList := by unfold C5.crc; rw [if_neg (by omega)]
  have e2 : C5.crc (t ++ u) = Mc.crcMore 0 (t ++ u).data.toList := by unfold C5.crc; rw [if_neg (by simp; omega)]
  rw [C5.more_yes (by omega) (by omega) (by omega), Int.toNat_natCast, e1, Mc.crcMore_on, e2]
  congr 1

set_option maxRecDepth 100000 in
set_option maxHeartbeats 800000 in
theorem walk (a0 a1 : Option Addr) (n0 n1 c0 c1 : Nat) (w : World) (h0 : IsCode w.heap.size w (.slice a0 n0 c0) n0) (h1 : IsCode w.heap.size w (.slice a1 n1 c1) n1) :
    Calls Try.prog 3 #[.slice a0 n0 c0, .slice a1 n1 c1] w fun e w' => e = .returned (.bool true) ∧ Below w.heap.size w w' := by
  have m0 := h0.1
  have m1 := h1.1
  by_cases g0 : 1048576 < n0
  · have d0 : decide ((1048576 : Int) < (n0 : Int)) = true := by simp; omega
    go_enter Try.func3, Try.ntmps3
    go_wp2
    go_ret
    exact ⟨rfl, Below.refl _ _⟩
  have d0 : decide ((1048576 : Int) < (n0 : Int)) = false := by simp; omega
  by_cases g1 : 1048576 < n1
  · go_enter Try.func3, Try.ntmps3
    go_wp2
    go_ret
    exact ⟨rfl, Below.refl _ _⟩
  have d1 : decide ((1048576 : Int) < (n1 : Int)) = false := by simp; omega
  go_enter Try.func3, Try.ntmps3
  go_wp2_with fail
  refine (D3.seal_any _ n0 _ h0).mono ?_
  rintro e w1 ⟨t, rfl, ht, hb1⟩
  have z1 := hb1.size
  go_wp2_with fail
  refine (C6.seal_impl t _ (by unfold maxLen; omega)).mono ?_
  rintro e w2 ⟨rfl, hb2⟩
  have z2 := hb2.size
  go_wp2_with fail
  refine (C6.seal_spec t _ (by unfold maxLen; omega)).mono ?_
  rintro e w3 ⟨rfl, hb3⟩
  have z3 := hb3.size
  have hb : Below w.heap.size w w3 := (hb1.trans (hb2.mono z1)).trans (hb3.mono (by omega))
  clear hb1 hb2 hb3
  by_cases hsz : 7996 < t.size
  · rw [C6.seal_no hsz]
    go_wp2_with fail
    refine (D3.more_any _ n1 _ ((h1.below hb (Nat.le_refl _)).up hb.size)).mono ?_
    rintro e w8 ⟨c, u, rfl, hc1, hc2, hu, hb8⟩
    have hbz : Below w.heap.size w w8 := hb.trans (hb8.mono hb.size)
    clear hb8
    by_cases h8 : 8000 < t.size + u.size
    · have h8i : (8000 : Int) < (t.size : Int) + (u.size : Int) := by omega
      go_wp2
      go_ret
      exact ⟨rfl, hbz⟩
    · have h8i : ¬ (8000 : Int) < (t.size : Int) + (u.size : Int) := by omega
      have hcl := crc_lt t
      have HM : Hid (C5.more (C5.crc t : Nat) u = C5.crc (t ++ u)) := more_on t u (by omega)
      go_wp2_with fail
      refine (C5.more_impl c u _ hc1 hc2 (by unfold maxLen; omega)).mono ?_
      rintro e w9 ⟨rfl, rfl⟩
      go_wp2_with fail
      refine (C5.more_spec c u _ hc1 hc2 (by unfold maxLen; omega)).mono ?_
      rintro e w9 ⟨rfl, rfl⟩
      go_wp2_with fail
      refine (C5.only_impl t _ (by unfold maxLen; omega)).mono ?_
      rintro e w9 ⟨rfl, rfl⟩
      go_wp2_with fail
      refine (C5.more_impl (C5.crc t : Nat) u _ (by omega) (by omega) (by unfold maxLen; omega)).mono ?_
      rintro e w9 ⟨rfl, rfl⟩
      rw [HM.out]
      go_wp2_with fail
      refine (C5.only_impl (t ++ u) _ (by unfold maxLen; simp; omega)).mono ?_
      rintro e w9 ⟨rfl, rfl⟩
      go_wp2
      go_ret
      exact ⟨rfl, hbz⟩
  · have hlen := C8.seal_len (t := t) (by omega)
    have hop := C8.opened_seal (t := t) (by omega)
    have htu := C8.opened_turned (t := t) (by omega)
    have HOP : Hid (C7.opened ⟨(C6.sealOf t).toArray⟩ = C7.out t 0) := hop
    have HTU : Hid (∀ (i : Nat) (hi : i < (C6.sealOf t).length) (c : UInt8), c ≠ (C6.sealOf t)[i] → C7.opened ⟨((C6.sealOf t).set i c).toArray⟩ = C7.out ⟨#[]⟩ 5) := htu
    clear hop htu
    generalize C6.sealOf t = l at *
    have hne : l.isEmpty = false := by
      cases l with
      | nil => simp at hlen
      | cons x r => rfl
    have hbs := fun wx : World => run_bytes_of_string (P := Try.prog) wx 9 22 5 (⟨l.toArray⟩ : ByteArray) Try.underlying9 Try.underlying22 Try.underlying5
    go_wp2_with fail
    obtain ⟨HC', HF'⟩ := bytes_world w3 l (grownCap w3 (t.size + 4) 0 5) (t.size + 4) hlen
    have hb4 : Below w.heap.size w (w3.alloc (.cells (bytesRow ⟨l.toArray⟩ (grownCap w3 (t.size + 4) 0 5)) 5 ((bytesRow ⟨l.toArray⟩ (grownCap w3 (t.size + 4) 0 5)).size, (bytesRow ⟨l.toArray⟩ (grownCap w3 (t.size + 4) 0 5)).size + 1))).drew := (hb.alloc hb.size _).drew
    have hz4 : w3.heap.size < (w3.alloc (.cells (bytesRow ⟨l.toArray⟩ (grownCap w3 (t.size + 4) 0 5)) 5 ((bytesRow ⟨l.toArray⟩ (grownCap w3 (t.size + 4) 0 5)).size, (bytesRow ⟨l.toArray⟩ (grownCap w3 (t.size + 4) 0 5)).size + 1))).drew.heap.size := by simp
    clear hbs
    generalize grownCap w3 (t.size + 4) 0 5 = cap at *
    generalize (w3.alloc (.cells (bytesRow ⟨l.toArray⟩ cap) 5 ((bytesRow ⟨l.toArray⟩ cap).size, (bytesRow ⟨l.toArray⟩ cap).size + 1))).drew = W at *
    have hg3 := hb.size
    have h1W : IsCode w.heap.size W (.slice a1 n1 c1) n1 := h1.below hb4 (Nat.le_refl _)
    refine (D3.at_any w.heap.size n1 _ 0 _ W h1W (by omega) (by omega)).mono ?_
    rintro e w5 ⟨i, rfl, hi, rfl⟩
    have hil : i < l.length := by omega
    have hc := HC' i hil
    have hfz := HF' i (by omega)
    have hii : (i : Int) < (t.size : Int) + 4 := by omega
    go_wp2
    go_region_with (go_at_call 7; refine (D3.at_any w.heap.size n1 _ 1 255 _ ?_ (by omega) (by omega)).mono ?_; exact h1W; rintro e w6 ⟨r, rfl, hr, rfl⟩)
    all_goals
      have hr5 : r < 255 := by omega
      have hwr := wrap_turn r hr5
      obtain ⟨hx1, hx2⟩ := xor_turn l[i] r hr5
      rw [hwr, hx1]
      clear hx1 hwr
      generalize l[i] ^^^ UInt8.ofNat (1 + r) = c at *
      have HC5 : ∀ j (hj : j < (l.set i c).length), (W.setCell ⟨w3.heap.size, i, none⟩ (.int .u8 (c.toNat : Int))).drew.cell? ⟨w3.heap.size, j, none⟩ = some (.int .u8 ((l.set i c)[j].toNat : Int)) := by
        intro j hj
        show (W.setCell _ _).cell? _ = _
        by_cases e : j = i
        · subst e
          rw [set_same hc]
          simp
        · rw [World.cell?_setCell_other _ _ _ _ (by intro h'; injection h' with _ h2; omega), HC' j (by simpa using hj)]
          rw [List.getElem_set_ne (by omega)]
      have hb5 : Below w.heap.size w (W.setCell ⟨w3.heap.size, i, none⟩ (.int .u8 (c.toNat : Int))).drew := (hb4.setCell (by simpa using hg3) _).drew
      have hz5 : w3.heap.size < (W.setCell ⟨w3.heap.size, i, none⟩ (.int .u8 (c.toNat : Int))).drew.heap.size := by simpa [World.setCell] using hz4
      clear hc hfz HF' HC' h1W
      generalize (W.setCell ⟨w3.heap.size, i, none⟩ (.int .u8 (c.toNat : Int))).drew = W5 at *
      go_wp2_with fail
      refine (C7.impl_any ⟨l.toArray⟩ _ (by rw [C8.mk_size]; unfold maxLen; omega)).mono ?_
      rintro e w6 ⟨rfl, hb6⟩
      rw [HOP.out]
      unfold C7.out
      have z6 := hb6.size
      have hconv := run_convert_bytes_back (P := Try.prog) w6 22 9 5 ⟨w3.heap.size, 0, none⟩ cap (l.set i c) Try.underlying22 Try.underlying5 Try.underlying9 (fun j hj => by
        rw [addr_at, hb6.cell (p := ⟨w3.heap.size, j, none⟩) hz5]; exact HC5 j hj)
      rw [List.length_set, hlen] at hconv
      go_wp2_with fail
      refine (C7.impl_any ⟨(l.set i c).toArray⟩ _ (by rw [C8.mk_size, List.length_set]; unfold maxLen; omega)).mono ?_
      rintro e w7 ⟨rfl, hb7⟩
      rw [HTU.out i hil c hx2]
      unfold C7.out
      have hb : Below w.heap.size w w7 := (hb5.trans (hb6.mono (by omega))).trans (hb7.mono (by omega))
      clear hb7 hb6 hb5 hb4 hconv HC5 HOP HTU
      have hfc := field_code
      go_wp2_with fail
      refine (D3.more_any _ n1 _ ((h1.below hb (Nat.le_refl _)).up hb.size)).mono ?_
      rintro e w8 ⟨c, u, rfl, hc1, hc2, hu, hb8⟩
      have hbz : Below w.heap.size w w8 := hb.trans (hb8.mono hb.size)
      clear hb8
      by_cases h8 : 8000 < t.size + u.size
      · have h8i : (8000 : Int) < (t.size : Int) + (u.size : Int) := by omega
        go_wp2
        go_ret
        exact ⟨rfl, hbz⟩
      · have h8i : ¬ (8000 : Int) < (t.size : Int) + (u.size : Int) := by omega
        have hcl := crc_lt t
        have HM : Hid (C5.more (C5.crc t : Nat) u = C5.crc (t ++ u)) := more_on t u (by omega)
        go_wp2_with fail
        refine (C5.more_impl c u _ hc1 hc2 (by unfold maxLen; omega)).mono ?_
        rintro e w9 ⟨rfl, rfl⟩
        go_wp2_with fail
        refine (C5.more_spec c u _ hc1 hc2 (by unfold maxLen; omega)).mono ?_
        rintro e w9 ⟨rfl, rfl⟩
        go_wp2_with fail
        refine (C5.only_impl t _ (by unfold maxLen; omega)).mono ?_
        rintro e w9 ⟨rfl, rfl⟩
        go_wp2_with fail
        refine (C5.more_impl (C5.crc t : Nat) u _ (by omega) (by omega) (by unfold maxLen; omega)).mono ?_
        rintro e w9 ⟨rfl, rfl⟩
        rw [HM.out]
        go_wp2_with fail
        refine (C5.only_impl (t ++ u) _ (by unfold maxLen; simp; omega)).mono ?_
        rintro e w9 ⟨rfl, rfl⟩
        go_wp2
        go_ret
        exact ⟨rfl, hbz⟩
end Go.Proofs.Ytmfghkoimfckjaa.YSeal
