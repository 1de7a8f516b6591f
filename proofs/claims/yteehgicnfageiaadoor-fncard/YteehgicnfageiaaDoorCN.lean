/-
  What readNum answers: the number, the place behind it and no error; or a fault with its code.
-/
import Derived.Test.YteehgicnfageiaaDoorCF
import Derived.Test.YteehgicnfageiaaDoorCG
import Derived.Test.YteehgicnfageiaaDoorQA
import Derived.Laws.BitsAllLaws
import Derived.WalkMore
namespace Go.Proofs.YteehgicnfageiaaDoor.CN
open Go.RowKit
open Go.Proofs.YteehgicnfageiaaDoor.C0
open Go.Proofs.YteehgicnfageiaaDoor.CG
attribute [local go_sem] jumps_normal jumps_exit jumps_ret jumps_panic jumps_goto

theorem unfold_any (u : Nat) (w : World) (hu : u < 18446744073709551616) :
    Calls Tryd.prog 125 #[.int .u64 u] w fun e w' => e = .returned (.int .i64 (Mg.unfoldI u)) ∧ w = w' := by
  have hh := Mg.half_lt hu
  by_cases h : u % 2 = 1
  · have HU : Hid (Mg.unfoldI u = -((u / 2 : Nat) : Int) - 1) := Mg.unfold_odd h
    have h1 : ((u : Int) % 2 == 1) = true := by rw [beq_iff_eq]; omega
    go_enter Tryd.func125, Tryd.ntmps125
    go_wp2
    go_ret
    exact ⟨by rw [HU.out]; rfl, rfl⟩
  · have HU : Hid (Mg.unfoldI u = ((u / 2 : Nat) : Int)) := Mg.unfold_even h
    have h1 : ((u : Int) % 2 == 1) = false := by rw [beq_eq_false_iff_ne]; omega
    go_enter Tryd.func125, Tryd.ntmps125
    go_wp2
    go_ret
    exact ⟨by rw [HU.out]; rfl, rfl⟩

theorem and127 (c : Nat) (h : c < 2 ^ 8) : bits .and .u8 (c : Int) 127 = ((c % 128 : Nat) : Int) := by
  have := u8_and_nat c 127 h (by omega)
  rw [nat_mask7] at this
  exact this

theorem or_val (u c i : Nat) (hi : i ≤ 9) (h9 : ¬ (i = 9 ∧ 1 < c)) (hu : u < 2 ^ (7 * i)) :
    bits .or .u64 (u : Int) (IntKind.u64.wrap ((c : Int) % 128 * 2 ^ (7 * i))) = ((u + c % 128 * 2 ^ (7 * i) : Nat) : Int) := by
  have ht := Mg.term_lt hi h9
  have hul : u < 18446744073709551616 := by have := Mg.pow_le i hi; omega
  have e : ((c : Int) % 128 * 2 ^ (7 * i)) = ((c % 128 * 2 ^ (7 * i) : Nat) : Int) := by simp
  have ew : IntKind.u64.wrap ((c % 128 * 2 ^ (7 * i) : Nat) : Int) = ((c % 128 * 2 ^ (7 * i) : Nat) : Int) := by
    rw [IntKind.wrap_u64]; omega
  rw [e, ew, u64_or_nat u _ hul ht, Mg.or_add hu]

/-- What readNum hands back of an outcome. -/
def outN (R : Nat × Nat × Nat) : Value := if R.2.2 = 0 then .tuple #[.int .i64 (Mg.unfoldI R.1), .int .i64 R.2.1, .nilIface] else .tuple #[.int .i64 0, .int .i64 0, CF.fault R.2.2]

/-- What holds at a jump: 1: byte i is to be read; 2: the last byte c was read; 0: the fault of that code. -/
def J (s : ByteArray) (a : Nat) (R : Nat × Nat × Nat) (w0 : World) : Nat → Act → World → Prop
  | 0, x, w => w = w0 ∧ ∃ (code : Nat) (at_ u_ b_ sh_ : Value) (u11 u12 u13 u14 u15 u16 u17 u18 u19 u20 u21 u22 u23 u24 u25 u26 u27 u28 u29 u30 u31 u32 u33 u34 u35 u36 u37 u38 u39 u40 u41 u42 u43 u44 u45 u46 u47 u48 u49 u50 : Value), x = { tmps := #[.string s, at_, undef, undef, .int .i64 0, .int .i64 0, .nilIface, u_, b_, sh_, .int .i64 code, u11, u12, u13, u14, u15, u16, u17, u18, u19, u20, u21, u22, u23, u24, u25, u26, u27, u28, u29, u30, u31, u32, u33, u34, u35, u36, u37, u38, u39, u40, u41, u42, u43, u44, u45, u46, u47, u48, u49, u50], defers := [] } ∧ code ≠ 0 ∧ R = (0, 0, code)
  | 1, x, w => w = w0 ∧ ∃ (f i u : Nat) (b_ code_ : Value) (u11 u12 u13 u14 u15 u16 u17 u18 u19 u20 u21 u22 u23 u24 u25 u26 u27 u28 u29 u30 u31 u32 u33 u34 u35 u36 u37 u38 u39 u40 u41 u42 u43 u44 u45 u46 u47 u48 u49 u50 : Value), x = { tmps := #[.string s, .int .i64 ((a + i : Nat) : Int), undef, undef, .int .i64 0, .int .i64 0, .nilIface, .int .u64 u, b_, .int .u64 ((7 * i : Nat) : Int), code_, u11, u12, u13, u14, u15, u16, u17, u18, u19, u20, u21, u22, u23, u24, u25, u26, u27, u28, u29, u30, u31, u32, u33, u34, u35, u36, u37, u38, u39, u40, u41, u42, u43, u44, u45, u46, u47, u48, u49, u50], defers := [] } ∧ f + i = 10 ∧ i ≤ 9 ∧ u < 2 ^ (7 * i) ∧ (i = 0 ∨ a + i ≤ s.size) ∧ R = Mg.getFrom s a f i u
  | 2, x, w => w = w0 ∧ ∃ (i u c : Nat) (u11 u12 u13 u14 u15 u16 u17 u18 u19 u20 u21 u22 u23 u24 u25 u26 u27 u28 u29 u30 u31 u32 u33 u34 u35 u36 u37 u38 u39 u40 u41 u42 u43 u44 u45 u46 u47 u48 u49 u50 : Value), x = { tmps := #[.string s, .int .i64 ((a + i + 1 : Nat) : Int), undef, undef, .int .i64 0, .int .i64 0, .nilIface, .int .u64 u, .int .u8 c, .int .u64 ((7 * i : Nat) : Int), .int .i64 3, u11, u12, u13, u14, u15, u16, u17, u18, u19, u20, u21, u22, u23, u24, u25, u26, u27, u28, u29, u30, u31, u32, u33, u34, u35, u36, u37, u38, u39, u40, u41, u42, u43, u44, u45, u46, u47, u48, u49, u50], defers := [] } ∧ i ≤ 9 ∧ c < 128 ∧ u < 18446744073709551616 ∧ a + i + 1 ≤ s.size ∧ R = (if c = 0 ∧ 0 < i then (0, 0, 3) else (u, a + i + 1, 0))
  | _, _, _ => False

def mu : Nat → Act → World → Nat
  | 1, x, _ => 100 - (intOf (x.tmps.getD 9 undef)).toNat
  | 2, _, _ => 1
  | _, _, _ => 0

set_option maxRecDepth 100000 in
set_option maxHeartbeats 1600000 in
theorem read_any (s : ByteArray) (a : Nat) (w : World) (hs : s.size ≤ 8000) (ha : a ≤ 9223372036854775807) :
    Calls Tryd.prog 102 #[.string s, .int .i64 a] w fun e w' => e = .returned (outN (Mg.getFrom s a 10 0 0)) ∧ w = w' := by
  generalize hR : Mg.getFrom s a 10 0 0 = R
  have HR : Hid (R = Mg.getFrom s a 10 0 0) := hR.symm
  clear hR
  go_enter Tryd.func102, Tryd.ntmps102
  go_wp2
  refine wp_scope_labels (J s a R w) mu ?_ ?_
  · intro l x wx hJ
    rcases l with _ | _ | _ | l
    · obtain ⟨rfl, code, at_, u_, b_, sh_, u11, u12, u13, u14, u15, u16, u17, u18, u19, u20, u21, u22, u23, u24, u25, u26, u27, u28, u29, u30, u31, u32, u33, u34, u35, u36, u37, u38, u39, u40, u41, u42, u43, u44, u45, u46, u47, u48, u49, u50, rfl, hc0, hRR⟩ := hJ
      have HO : Hid (outN R = .tuple #[.int .i64 0, .int .i64 0, CF.fault code]) := by rw [hRR]; simp [Hid, outN, hc0]
      clear hRR HR
      refine ⟨_, rfl, ?_⟩
      go_wp2
      go_ret3
      exact ⟨by rw [HO.out]; rfl, rfl⟩
    · obtain ⟨rfl, f, i, u, b_, code_, u11, u12, u13, u14, u15, u16, u17, u18, u19, u20, u21, u22, u23, u24, u25, u26, u27, u28, u29, u30, u31, u32, u33, u34, u35, u36, u37, u38, u39, u40, u41, u42, u43, u44, u45, u46, u47, u48, u49, u50, rfl, hf, hi, hu, hai, hRR⟩ := hJ
      refine ⟨_, rfl, ?_⟩
      clear HR
      obtain ⟨g, rfl⟩ : ∃ g, f = g + 1 := ⟨f - 1, by omega⟩
      by_cases hlt : a + i < s.size
      · have hcl := s[a + i].toNat_lt
        have hby : Mg.byteN s (a + i) = s[a + i].toNat := Mg.byteN_eq hlt
        by_cases h9 : i = 9 ∧ 1 < Mg.byteN s (a + i)
        · have HX : Hid (R = (0, 0, 3)) := hRR.trans (Mg.from_wide hlt h9)
          rw [hby] at h9
          obtain ⟨rfl, h1⟩ := h9
          clear hRR hby hf hi
          go_wp2
          go_step3
          exact ⟨⟨rfl, 3, _, _, _, _, _, _, _, _, _, _, _, _, _, _, _, _, _, _, _, _, _, _, _, _, _, _, _, _, _, _, _, _, _, _, _, _, _, _, _, _, _, _, _, _, rfl, by omega, HX.out⟩, by simp [mu, intOf]⟩
        · have han : bits .and .u8 (s[a + i].toNat : Int) 127 = ((s[a + i].toNat % 128 : Nat) : Int) := and127 _ hcl
          have h9' : ¬ (i = 9 ∧ 1 < s[a + i].toNat) := by rw [← hby]; exact h9
          have HO : Hid (bits .or .u64 (u : Int) (IntKind.u64.wrap ((s[a + i].toNat : Int) % 128 * 2 ^ (7 * i))) = ((u + s[a + i].toNat % 128 * 2 ^ (7 * i) : Nat) : Int)) := or_val u _ i hi h9' hu
          have hsum := Mg.sum_lt hi h9' hu
          by_cases hl : Mg.byteN s (a + i) < 128
          · have HX : Hid (R = if s[a + i].toNat = 0 ∧ 0 < i then (0, 0, 3) else (u + s[a + i].toNat % 128 * 2 ^ (7 * i), a + i + 1, 0)) := by
              have := hRR.trans (Mg.from_lt hlt h9 hl); rw [hby] at this; exact this
            rw [hby] at hl
            clear hRR hby h9
            by_cases hi9 : i = 9
            · have hb9 : (7 * (i : Int) == 63) = true := by rw [beq_iff_eq]; omega
              have hle : ((s[a + i].toNat : Nat) : Int) ≤ 1 := by omega
              have HI : Hid (i = 9) := hi9
              clear h9' hi9
              go_wp2
              go_step3
              rw [HO.out]
              exact ⟨⟨rfl, i, _, _, _, _, _, _, _, _, _, _, _, _, _, _, _, _, _, _, _, _, _, _, _, _, _, _, _, _, _, _, _, _, _, _, _, _, _, _, _, _, _, _, rfl, hi, hl, hsum, by omega, HX.out⟩, by simp [mu, intOf]; omega⟩
            · have hb9 : (7 * (i : Int) == 63) = false := by rw [beq_eq_false_iff_ne]; omega
              clear h9'
              go_wp2
              go_step3
              rw [HO.out]
              exact ⟨⟨rfl, i, _, _, _, _, _, _, _, _, _, _, _, _, _, _, _, _, _, _, _, _, _, _, _, _, _, _, _, _, _, _, _, _, _, _, _, _, _, _, _, _, _, _, rfl, hi, hl, hsum, by omega, HX.out⟩, by simp [mu, intOf]; omega⟩
          · have HX : Hid (R = Mg.getFrom s a g (i + 1) (u + s[a + i].toNat % 128 * 2 ^ (7 * i))) := by
              have := hRR.trans (Mg.from_more hlt h9 hl); rw [hby] at this; exact this
            rw [hby] at hl
            clear hRR hby h9
            have hi9 : ¬ i = 9 := by omega
            have hb9 : (7 * (i : Int) == 63) = false := by rw [beq_eq_false_iff_ne]; omega
            clear h9'
            go_wp2
            go_step3
            rw [HO.out]
            exact ⟨⟨rfl, g, i + 1, _, _, _, _, _, _, _, _, _, _, _, _, _, _, _, _, _, _, _, _, _, _, _, _, _, _, _, _, _, _, _, _, _, _, _, _, _, _, _, _, _, _, _, rfl, by omega, by omega, Mg.step_lt hu, .inr (by omega), HX.out⟩, by simp [mu, intOf]; omega⟩
      · have HX : Hid (R = (0, 0, 4)) := hRR.trans (Mg.from_short hlt)
        clear hRR
        have hge : ((s.size : Nat) : Int) ≤ ((a + i : Nat) : Int) := by omega
        go_wp2
        go_step3
        exact ⟨⟨rfl, 4, _, _, _, _, _, _, _, _, _, _, _, _, _, _, _, _, _, _, _, _, _, _, _, _, _, _, _, _, _, _, _, _, _, _, _, _, _, _, _, _, _, _, _, _, rfl, by omega, HX.out⟩, by simp [mu, intOf]; omega⟩
    · obtain ⟨rfl, i, u, c, u11, u12, u13, u14, u15, u16, u17, u18, u19, u20, u21, u22, u23, u24, u25, u26, u27, u28, u29, u30, u31, u32, u33, u34, u35, u36, u37, u38, u39, u40, u41, u42, u43, u44, u45, u46, u47, u48, u49, u50, rfl, hi, hc, hu, hai, hRR⟩ := hJ
      refine ⟨_, rfl, ?_⟩
      clear HR
      by_cases h0 : c = 0
      · subst h0
        by_cases hi0 : 0 < i
        · rw [if_pos ⟨rfl, hi0⟩] at hRR
          have h7 : (0 : Int) < ((7 * i : Nat) : Int) := by omega
          have HX : Hid (R = (0, 0, 3)) := hRR
          clear hRR
          go_wp2
          go_step3
          exact ⟨⟨rfl, 3, _, _, _, _, _, _, _, _, _, _, _, _, _, _, _, _, _, _, _, _, _, _, _, _, _, _, _, _, _, _, _, _, _, _, _, _, _, _, _, _, _, _, _, _, rfl, by omega, HX.out⟩, by simp [mu]⟩
        · rw [if_neg (by omega)] at hRR
          obtain rfl : i = 0 := by omega
          have HO : Hid (outN R = .tuple #[.int .i64 (Mg.unfoldI u), .int .i64 ((a + 0 + 1 : Nat) : Int), .nilIface]) := by rw [hRR]; rfl
          clear hRR
          go_wp2_with (first | (go_at_call 125; refine (unfold_any u _ hu).mono ?_; rintro e w' ⟨rfl, rfl⟩))
          go_ret3
          exact ⟨by rw [HO.out]; rfl, rfl⟩
      · rw [if_neg (by omega)] at hRR
        have hcb : ((c : Int) == 0) = false := by rw [beq_eq_false_iff_ne]; omega
        have HO : Hid (outN R = .tuple #[.int .i64 (Mg.unfoldI u), .int .i64 ((a + i + 1 : Nat) : Int), .nilIface]) := by rw [hRR]; rfl
        clear hRR
        go_wp2_with (first | (go_at_call 125; refine (unfold_any u _ hu).mono ?_; rintro e w' ⟨rfl, rfl⟩))
        go_ret3
        exact ⟨by rw [HO.out]; rfl, rfl⟩
    · exact hJ.elim
  · intro hp
    go_wp2
    go_step3
    rename_i hK
    exact hK _ _ (hp 1 _ _ _ rfl ⟨rfl, 10, 0, 0, _, _, _, _, _, _, _, _, _, _, _, _, _, _, _, _, _, _, _, _, _, _, _, _, _, _, _, _, _, _, _, _, _, _, _, _, _, _, _, _, _, _, rfl, rfl, by omega, by omega, .inl rfl, HR.out⟩)

set_option maxRecDepth 100000 in
theorem read_neg (s : ByteArray) (a : Int) (w : World) (ha : a < 0) :
    Calls Tryd.prog 102 #[.string s, .int .i64 a] w fun e w' => e = .returned (outN (0, 0, 1)) ∧ w = w' := by
  go_enter Tryd.func102, Tryd.ntmps102
  go_wp2
  refine wp_scope_labels (fun l x w' => l = 0 ∧ J s 0 (0, 0, 1) w 0 x w') (fun _ _ _ => 0) ?_ ?_
  · rintro l x wx ⟨rfl, rfl, code, at_, u_, b_, sh_, u11, u12, u13, u14, u15, u16, u17, u18, u19, u20, u21, u22, u23, u24, u25, u26, u27, u28, u29, u30, u31, u32, u33, u34, u35, u36, u37, u38, u39, u40, u41, u42, u43, u44, u45, u46, u47, u48, u49, u50, rfl, hc0, hRR⟩
    have hc : code = 1 := by simpa using hRR.symm
    subst hc
    refine ⟨_, rfl, ?_⟩
    go_wp2
    go_ret3
    exact ⟨rfl, rfl⟩
  · intro hp
    go_wp2
    go_step3
    exact ⟨rfl, rfl, 1, _, _, _, _, _, _, _, _, _, _, _, _, _, _, _, _, _, _, _, _, _, _, _, _, _, _, _, _, _, _, _, _, _, _, _, _, _, _, _, _, _, _, _, _, rfl, by omega, rfl⟩
end Go.Proofs.YteehgicnfageiaaDoor.CN
