/-
  CG CN CH CI: parts of the proof, one behind the other.
-/
import Derived.Scope
import Derived.WalkKit
import Derived.Test.YtfiabbfdnmldjaaGreatDoorPI
import Derived.Test.YtfiabbfdnmldjaaGreatDoorPA
import Derived.Laws.BitsAllLaws
import Derived.WalkMore
/-
  A law on code in which the run jumps to labels, several of them: what holds at each jump, and a measure that every pass from a label lowers.
-/
namespace Go.Proofs.YtfiabbfdnmldjaaGreatDoor.CG
open Go

/-- As Q; by a goto to label l: J l. -/
def jumps (J : Nat → Act → World → Prop) (Q : Exit → Act → World → Prop) : Exit → Act → World → Prop
  | .goto l, a, w => J l a w
  | e, a, w => Q e a w
section
variable {P : Program} {a : Act} {w : World} {Q : Exit → Act → World → Prop} {J : Nat → Act → World → Prop}
theorem jumps_normal : jumps J Q .normal a w = Q .normal a w := rfl
theorem jumps_exit (id : Nat) : jumps J Q (.exit id) a w = Q (.exit id) a w := rfl
theorem jumps_ret : jumps J Q .ret a w = Q .ret a w := rfl
theorem jumps_panic (ch : List PanicEntry) : jumps J Q (.panic ch) a w = Q (.panic ch) a w := rfl
theorem jumps_goto (l : Nat) : jumps J Q (.goto l) a w = J l a w := rfl

theorem wp_scope_labels {c : Code} (J : Nat → Act → World → Prop) (μ : Nat → Act → World → Nat)
    (pass : ∀ l a w, J l a w → ∃ X, findLabel c l = some (.seq .skip X) ∧ X.wp P (jumps (fun l' a' w' => J l' a' w' ∧ μ l' a' w' < μ l a w) Q) a w)
    (first : (∀ l X a w, findLabel c l = some (.seq .skip X) → J l a w → X.wp P (jumps J Q) a w) → c.wp P (jumps J Q) a w) : (Code.scope c).wp P Q a w := by
  have hp : ∀ l X a w, findLabel c l = some (.seq .skip X) → J l a w → X.wp P (jumps J Q) a w := by
    intro l X a w hf hJ
    obtain ⟨X', hf', hw⟩ := pass l a w hJ
    have e : X' = X := by
      have := hf'.symm.trans hf
      simpa using this
    subst e
    refine wp_mono hw fun e a' w' h => ?_
    cases e with
    | goto l' => exact h.1
    | normal => exact h
    | exit id => exact h
    | ret => exact h
    | panic ch => exact h
    | outgrown => exact h
  have first := first hp
  intro b k cs
  have hg : ∀ {l rest}, findLabel c l = some rest → gotoIn l (.inScope c :: k) = some (.code rest :: .inScope c :: k) := by
    intro l rest hf
    simp [gotoIn, hf]
  have key : ∀ n l a w, μ l a w = n → J l a w → ∃ rest, findLabel c l = some rest ∧ ∃ e a' w', Q e a' w' ∧ Arrives P (lone (b.at a (.code rest :: .inScope c :: k)) cs w) b k cs e a' w' := by
    intro n
    induction n using Nat.strongRecOn with
    | _ n ih =>
      intro l a w hn hJ
      obtain ⟨X, hf, hw0⟩ := pass l a w hJ
      have hw : (Code.seq .skip X).wp P (jumps (fun l' a' w' => J l' a' w' ∧ μ l' a' w' < μ l a w) Q) a w := wp_seq (wp_skip hw0)
      refine ⟨_, hf, ?_⟩
      obtain ⟨e, a₁, w₁, hq, harr⟩ := hw b (.inScope c :: k) cs
      cases e with
      | normal => exact ⟨.normal, a₁, w₁, hq, Steps.trans harr (.one step_inScope)⟩
      | exit id => exact ⟨.exit id, a₁, w₁, hq, fun k' hk => harr k' (by simp [exitTo, hk])⟩
      | goto l' =>
        obtain ⟨hJ', hlt⟩ := hq
        obtain ⟨rest', hf', e₂, a₂, w₂, hq₂, harr₂⟩ := ih _ (by omega) l' a₁ w₁ rfl hJ'
        exact ⟨e₂, a₂, w₂, hq₂, .of_steps (harr _ (hg hf')) harr₂⟩
      | ret => exact ⟨_, a₁, w₁, hq, harr⟩
      | panic ch => exact ⟨_, a₁, w₁, hq, harr⟩
      | outgrown => exact ⟨_, a₁, w₁, hq, harr⟩
  obtain ⟨e, a₁, w₁, hq, harr⟩ := first b (.inScope c :: k) cs
  cases e with
  | normal => exact ⟨.normal, a₁, w₁, hq, .head step_scope (Steps.trans harr (.one step_inScope))⟩
  | exit id => exact ⟨.exit id, a₁, w₁, hq, fun k' hk => .head step_scope (harr k' (by simp [exitTo, hk]))⟩
  | goto l' =>
    obtain ⟨rest', hf', e₂, a₂, w₂, hq₂, harr₂⟩ := key _ l' a₁ w₁ rfl hq
    exact ⟨e₂, a₂, w₂, hq₂, .of_steps (.head step_scope (harr _ (hg hf'))) harr₂⟩
  | ret => exact ⟨_, a₁, w₁, hq, .of_steps (.one step_scope) harr⟩
  | panic ch => exact ⟨_, a₁, w₁, hq, .of_steps (.one step_scope) harr⟩
  | outgrown => exact ⟨_, a₁, w₁, hq, .of_steps (.one step_scope) harr⟩
end
end Go.Proofs.YtfiabbfdnmldjaaGreatDoor.CG

/-
  What readNum answers: the number, the place behind it and no error; or a fault with its code.
-/
namespace Go.Proofs.YtfiabbfdnmldjaaGreatDoor.CN
open Go.RowKit
open Go.Proofs.YtfiabbfdnmldjaaGreatDoor.C0
open Go.Proofs.YtfiabbfdnmldjaaGreatDoor.CG
attribute [local go_sem] jumps_normal jumps_exit jumps_ret jumps_panic jumps_goto

theorem unfold_any (u : Nat) (w : World) (hu : u < 18446744073709551616) :
    Calls Tryz.prog 111 #[.int .u64 u] w fun e w' => e = .returned (.int .i64 (Mg.unfoldI u)) ∧ w = w' := by
  have hh := Mg.half_lt hu
  by_cases h : u % 2 = 1
  · have HU : Hid (Mg.unfoldI u = -((u / 2 : Nat) : Int) - 1) := Mg.unfold_odd h
    have h1 : ((u : Int) % 2 == 1) = true := by rw [beq_iff_eq]; omega
    go_enter Tryz.func111, Tryz.ntmps111
    go_wp2
    go_ret
    exact ⟨by rw [HU.out]; rfl, rfl⟩
  · have HU : Hid (Mg.unfoldI u = ((u / 2 : Nat) : Int)) := Mg.unfold_even h
    have h1 : ((u : Int) % 2 == 1) = false := by rw [beq_eq_false_iff_ne]; omega
    go_enter Tryz.func111, Tryz.ntmps111
    go_wp2
    go_ret
    exact ⟨by rw [HU.out]; rfl, rfl⟩

theorem and127 (c : Nat) (h : c < 2 ^ 8) : bits .and .u8 (c : Int) 127 = ((c % 128 : Nat) : Int) := by
  have := u8_and_nat c 127 h (by omega)
  rw [nat_mask7] at this
  exact this

theorem or_val (u c i : Nat) (hi : i ≤ 9) (h9 : ¬ (i = 9 ∧ 1 < c)) (hu : u < 2 ^ (7 * i)) :
    bits .or .u64 (u : Int) (IntKind.u64.wrap ((c : Int) % 128 * 2 ^ (7 * i))) = ((u + c % 128 * 2 ^ (7 * i) : Nat) : Int) := by
  have ht := Mg.term_lt hi h9
  have hul : u < 18446744073709551616 := by have := Mg.pow_le i hi; omega
  have e : ((c : Int) % 128 * 2 ^ (7 * i)) = ((c % 128 * 2 ^ (7 * i) : Nat) : Int) := by simp
  have ew : IntKind.u64.wrap ((c % 128 * 2 ^ (7 * i) : Nat) : Int) = ((c % 128 * 2 ^ (7 * i) : Nat) : Int) := by
    rw [IntKind.wrap_u64]; omega
  rw [e, ew, u64_or_nat u _ hul ht, Mg.or_add hu]

/-- What readNum hands back of an outcome. -/
def outN (R : Nat × Nat × Nat) : Value := if R.2.2 = 0 then .tuple #[.int .i64 (Mg.unfoldI R.1), .int .i64 R.2.1, .nilIface] else .tuple #[.int .i64 0, .int .i64 0, CF.fault R.2.2]

/-- What holds at a jump: 1: byte i is to be read; 2: the last byte c was read; 0: the fault of that code. -/
def J (s : ByteArray) (a : Nat) (R : Nat × Nat × Nat) (w0 : World) : Nat → Act → World → Prop
  | 0, x, w => w = w0 ∧ ∃ (code : Nat) (at_ u_ b_ sh_ : Value) (u11 u12 u13 u14 u15 u16 u17 u18 u19 u20 u21 u22 u23 u24 u25 u26 u27 u28 u29 u30 u31 u32 u33 u34 u35 u36 u37 u38 u39 u40 u41 u42 u43 u44 u45 u46 u47 u48 u49 u50 : Value), x = { tmps := #[.string s, at_, undef, undef, .int .i64 0, .int .i64 0, .nilIface, u_, b_, sh_, .int .i64 code, u11, u12, u13, u14, u15, u16, u17, u18, u19, u20, u21, u22, u23, u24, u25, u26, u27, u28, u29, u30, u31, u32, u33, u34, u35, u36, u37, u38, u39, u40, u41, u42, u43, u44, u45, u46, u47, u48, u49, u50], defers := [] } ∧ code ≠ 0 ∧ R = (0, 0, code)
  | 1, x, w => w = w0 ∧ ∃ (f i u : Nat) (b_ code_ : Value) (u11 u12 u13 u14 u15 u16 u17 u18 u19 u20 u21 u22 u23 u24 u25 u26 u27 u28 u29 u30 u31 u32 u33 u34 u35 u36 u37 u38 u39 u40 u41 u42 u43 u44 u45 u46 u47 u48 u49 u50 : Value), x = { tmps := #[.string s, .int .i64 ((a + i : Nat) : Int), undef, undef, .int .i64 0, .int .i64 0, .nilIface, .int .u64 u, b_, .int .u64 ((7 * i : Nat) : Int), code_, u11, u12, u13, u14, u15, u16, u17, u18, u19, u20, u21, u22, u23, u24, u25, u26, u27, u28, u29, u30, u31, u32, u33, u34, u35, u36, u37, u38, u39, u40, u41, u42, u43, u44, u45, u46, u47, u48, u49, u50], defers := [] } ∧ f + i = 10 ∧ i ≤ 9 ∧ u < 2 ^ (7 * i) ∧ (i = 0 ∨ a + i ≤ s.size) ∧ R = Mg.getFrom s a f i u
  | 2, x, w => w = w0 ∧ ∃ (i u c : Nat) (u11 u12 u13 u14 u15 u16 u17 u18 u19 u20 u21 u22 u23 u24 u25 u26 u27 u28 u29 u30 u31 u32 u33 u34 u35 u36 u37 u38 u39 u40 u41 u42 u43 u44 u45 u46 u47 u48 u49 u50 : Value), x = { tmps := #[.string s, .int .i64 ((a + i + 1 : Nat) : Int), undef, undef, .int .i64 0, .int .i64 0, .nilIface, .int .u64 u, .int .u8 c, .int .u64 ((7 * i : Nat) : Int), .int .i64 3, u11, u12, u13, u14, u15, u16, u17, u18, u19, u20, u21, u22, u23, u24, u25, u26, u27, u28, u29, u30, u31, u32, u33, u34, u35, u36, u37, u38, u39, u40, u41, u42, u43, u44, u45, u46, u47, u48, u49, u50], defers := [] } ∧ i ≤ 9 ∧ c < 128 ∧ u < 18446744073709551616 ∧ a + i + 1 ≤ s.size ∧ R = (if c = 0 ∧ 0 < i then (0, 0, 3) else (u, a + i + 1, 0))
  | _, _, _ => False

def mu : Nat → Act → World → Nat
  | 1, x, _ => 100 - (intOf (x.tmps.getD 9 undef)).toNat
  | 2, _, _ => 1
  | _, _, _ => 0

set_option maxRecDepth 100000 in
set_option maxHeartbeats 1600000 in
theorem read_any (s : ByteArray) (a : Nat) (w : World) (hs : s.size ≤ 8000) (ha : a ≤ 9223372036854775807) :
    Calls Tryz.prog 98 #[.string s, .int .i64 a] w fun e w' => e = .returned (outN (Mg.getFrom s a 10 0 0)) ∧ w = w' := by
  generalize hR : Mg.getFrom s a 10 0 0 = R
  have HR : Hid (R = Mg.getFrom s a 10 0 0) := hR.symm
  clear hR
  go_enter Tryz.func98, Tryz.ntmps98
  go_wp2
  refine wp_scope_labels (J s a R w) mu ?_ ?_
  · intro l x wx hJ
    rcases l with _ | _ | _ | l
    · obtain ⟨rfl, code, at_, u_, b_, sh_, u11, u12, u13, u14, u15, u16, u17, u18, u19, u20, u21, u22, u23, u24, u25, u26, u27, u28, u29, u30, u31, u32, u33, u34, u35, u36, u37, u38, u39, u40, u41, u42, u43, u44, u45, u46, u47, u48, u49, u50, rfl, hc0, hRR⟩ := hJ
      have HO : Hid (outN R = .tuple #[.int .i64 0, .int .i64 0, CF.fault code]) := by rw [hRR]; simp [Hid, outN, hc0]
      clear hRR HR
      refine ⟨_, rfl, ?_⟩
      go_wp2
      go_ret3
      exact ⟨by rw [HO.out]; rfl, rfl⟩
    · obtain ⟨rfl, f, i, u, b_, code_, u11, u12, u13, u14, u15, u16, u17, u18, u19, u20, u21, u22, u23, u24, u25, u26, u27, u28, u29, u30, u31, u32, u33, u34, u35, u36, u37, u38, u39, u40, u41, u42, u43, u44, u45, u46, u47, u48, u49, u50, rfl, hf, hi, hu, hai, hRR⟩ := hJ
      refine ⟨_, rfl, ?_⟩
      clear HR
      obtain ⟨g, rfl⟩ : ∃ g, f = g + 1 := ⟨f - 1, by omega⟩
      by_cases hlt : a + i < s.size
      · have hcl := s[a + i].toNat_lt
        have hby : Mg.byteN s (a + i) = s[a + i].toNat := Mg.byteN_eq hlt
        by_cases h9 : i = 9 ∧ 1 < Mg.byteN s (a + i)
        · have HX : Hid (R = (0, 0, 3)) := hRR.trans (Mg.from_wide hlt h9)
          rw [hby] at h9
          obtain ⟨rfl, h1⟩ := h9
          clear hRR hby hf hi
          go_wp2
          go_step3
          exact ⟨⟨rfl, 3, _, _, _, _, _, _, _, _, _, _, _, _, _, _, _, _, _, _, _, _, _, _, _, _, _, _, _, _, _, _, _, _, _, _, _, _, _, _, _, _, _, _, _, _, rfl, by omega, HX.out⟩, by simp [mu, intOf]⟩
        · have han : bits .and .u8 (s[a + i].toNat : Int) 127 = ((s[a + i].toNat % 128 : Nat) : Int) := and127 _ hcl
          have h9' : ¬ (i = 9 ∧ 1 < s[a + i].toNat) := by rw [← hby]; exact h9
          have HO : Hid (bits .or .u64 (u : Int) (IntKind.u64.wrap ((s[a + i].toNat : Int) % 128 * 2 ^ (7 * i))) = ((u + s[a + i].toNat % 128 * 2 ^ (7 * i) : Nat) : Int)) := or_val u _ i hi h9' hu
          have hsum := Mg.sum_lt hi h9' hu
          by_cases hl : Mg.byteN s (a + i) < 128
          · have HX : Hid (R = if s[a + i].toNat = 0 ∧ 0 < i then (0, 0, 3) else (u + s[a + i].toNat % 128 * 2 ^ (7 * i), a + i + 1, 0)) := by
              have := hRR.trans (Mg.from_lt hlt h9 hl); rw [hby] at this; exact this
            rw [hby] at hl
            clear hRR hby h9
            by_cases hi9 : i = 9
            · have hb9 : (7 * (i : Int) == 63) = true := by rw [beq_iff_eq]; omega
              have hle : ((s[a + i].toNat : Nat) : Int) ≤ 1 := by omega
              have HI : Hid (i = 9) := hi9
              clear h9' hi9
              go_wp2
              go_step3
              rw [HO.out]
              exact ⟨⟨rfl, i, _, _, _, _, _, _, _, _, _, _, _, _, _, _, _, _, _, _, _, _, _, _, _, _, _, _, _, _, _, _, _, _, _, _, _, _, _, _, _, _, _, _, rfl, hi, hl, hsum, by omega, HX.out⟩, by simp [mu, intOf]; omega⟩
            · have hb9 : (7 * (i : Int) == 63) = false := by rw [beq_eq_false_iff_ne]; omega
              clear h9'
              go_wp2
              go_step3
              rw [HO.out]
              exact ⟨⟨rfl, i, _, _, _, _, _, _, _, _, _, _, _, _, _, _, _, _, _, _, _, _, _, _, _, _, _, _, _, _, _, _, _, _, _, _, _, _, _, _, _, _, _, _, rfl, hi, hl, hsum, by omega, HX.out⟩, by simp [mu, intOf]; omega⟩
          · have HX : Hid (R = Mg.getFrom s a g (i + 1) (u + s[a + i].toNat % 128 * 2 ^ (7 * i))) := by
              have := hRR.trans (Mg.from_more hlt h9 hl); rw [hby] at this; exact this
            rw [hby] at hl
            clear hRR hby h9
            have hi9 : ¬ i = 9 := by omega
            have hb9 : (7 * (i : Int) == 63) = false := by rw [beq_eq_false_iff_ne]; omega
            clear h9'
            go_wp2
            go_step3
            rw [HO.out]
            exact ⟨⟨rfl, g, i + 1, _, _, _, _, _, _, _, _, _, _, _, _, _, _, _, _, _, _, _, _, _, _, _, _, _, _, _, _, _, _, _, _, _, _, _, _, _, _, _, _, _, _, _, rfl, by omega, by omega, Mg.step_lt hu, .inr (by omega), HX.out⟩, by simp [mu, intOf]; omega⟩
      · have HX : Hid (R = (0, 0, 4)) := hRR.trans (Mg.from_short hlt)
        clear hRR
        have hge : ((s.size : Nat) : Int) ≤ ((a + i : Nat) : Int) := by omega
        go_wp2
        go_step3
        exact ⟨⟨rfl, 4, _, _, _, _, _, _, _, _, _, _, _, _, _, _, _, _, _, _, _, _, _, _, _, _, _, _, _, _, _, _, _, _, _, _, _, _, _, _, _, _, _, _, _, _, rfl, by omega, HX.out⟩, by simp [mu, intOf]; omega⟩
    · obtain ⟨rfl, i, u, c, u11, u12, u13, u14, u15, u16, u17, u18, u19, u20, u21, u22, u23, u24, u25, u26, u27, u28, u29, u30, u31, u32, u33, u34, u35, u36, u37, u38, u39, u40, u41, u42, u43, u44, u45, u46, u47, u48, u49, u50, rfl, hi, hc, hu, hai, hRR⟩ := hJ
      refine ⟨_, rfl, ?_⟩
      clear HR
      by_cases h0 : c = 0
      · subst h0
        by_cases hi0 : 0 < i
        · rw [if_pos ⟨rfl, hi0⟩] at hRR
          have h7 : (0 : Int) < ((7 * i : Nat) : Int) := by omega
          have HX : Hid (R = (0, 0, 3)) := hRR
          clear hRR
          go_wp2
          go_step3
          exact ⟨⟨rfl, 3, _, _, _, _, _, _, _, _, _, _, _, _, _, _, _, _, _, _, _, _, _, _, _, _, _, _, _, _, _, _, _, _, _, _, _, _, _, _, _, _, _, _, _, _, rfl, by omega, HX.out⟩, by simp [mu]⟩
        · rw [if_neg (by omega)] at hRR
          obtain rfl : i = 0 := by omega
          have HO : Hid (outN R = .tuple #[.int .i64 (Mg.unfoldI u), .int .i64 ((a + 0 + 1 : Nat) : Int), .nilIface]) := by rw [hRR]; rfl
          clear hRR
          go_wp2_with (first | (go_at_call 111; refine (unfold_any u _ hu).mono ?_; rintro e w' ⟨rfl, rfl⟩))
          go_ret3
          exact ⟨by rw [HO.out]; rfl, rfl⟩
      · rw [if_neg (by omega)] at hRR
        have hcb : ((c : Int) == 0) = false := by rw [beq_eq_false_iff_ne]; omega
        have HO : Hid (outN R = .tuple #[.int .i64 (Mg.unfoldI u), .int .i64 ((a + i + 1 : Nat) : Int), .nilIface]) := by rw [hRR]; rfl
        clear hRR
        go_wp2_with (first | (go_at_call 111; refine (unfold_any u _ hu).mono ?_; rintro e w' ⟨rfl, rfl⟩))
        go_ret3
        exact ⟨by rw [HO.out]; rfl, rfl⟩
    · exact hJ.elim
  · intro hp
    go_wp2
    go_step3
    rename_i hK
    exact hK _ _ (hp 1 _ _ _ rfl ⟨rfl, 10, 0, 0, _, _, _, _, _, _, _, _, _, _, _, _, _, _, _, _, _, _, _, _, _, _, _, _, _, _, _, _, _, _, _, _, _, _, _, _, _, _, _, _, _, _, rfl, rfl, by omega, by omega, .inl rfl, HR.out⟩)

set_option maxRecDepth 100000 in
theorem read_neg (s : ByteArray) (a : Int) (w : World) (ha : a < 0) :
    Calls Tryz.prog 98 #[.string s, .int .i64 a] w fun e w' => e = .returned (outN (0, 0, 1)) ∧ w = w' := by
  go_enter Tryz.func98, Tryz.ntmps98
  go_wp2
  refine wp_scope_labels (fun l x w' => l = 0 ∧ J s 0 (0, 0, 1) w 0 x w') (fun _ _ _ => 0) ?_ ?_
  · rintro l x wx ⟨rfl, rfl, code, at_, u_, b_, sh_, u11, u12, u13, u14, u15, u16, u17, u18, u19, u20, u21, u22, u23, u24, u25, u26, u27, u28, u29, u30, u31, u32, u33, u34, u35, u36, u37, u38, u39, u40, u41, u42, u43, u44, u45, u46, u47, u48, u49, u50, rfl, hc0, hRR⟩
    have hc : code = 1 := by simpa using hRR.symm
    subst hc
    refine ⟨_, rfl, ?_⟩
    go_wp2
    go_ret3
    exact ⟨rfl, rfl⟩
  · intro hp
    go_wp2
    go_step3
    exact ⟨rfl, rfl, 1, _, _, _, _, _, _, _, _, _, _, _, _, _, _, _, _, _, _, _, _, _, _, _, _, _, _, _, _, _, _, _, _, _, _, _, _, _, _, _, _, _, _, _, _, rfl, by omega, rfl⟩
end Go.Proofs.YtfiabbfdnmldjaaGreatDoor.CN

/-
  What GetNum answers, in the specification and in the program.
-/
namespace Go.Proofs.YtfiabbfdnmldjaaGreatDoor.CH
open Go.RowKit
open Go.Proofs.YtfiabbfdnmldjaaGreatDoor.C0

def numOut (n at_ code : Int) : Value := .agg #[.int .i64 n, .int .i64 at_, .int .i64 code]
def outV (R : Nat × Nat × Nat) : Value := if R.2.2 = 0 then numOut (Mg.unfoldI R.1) R.2.1 0 else numOut 0 0 R.2.2
/-- What GetNum answers. -/
def numOf (s : ByteArray) (a : Int) : Value := if 8000 < s.size then numOut 0 0 2 else if a < 0 then numOut 0 0 1 else outV (Mg.getFrom s a.toNat 10 0 0)
theorem numOf_big {s : ByteArray} {a : Int} (h : 8000 < s.size) : numOf s a = numOut 0 0 2 := by simp [numOf, h]
theorem numOf_neg {s : ByteArray} {a : Int} (h : ¬ 8000 < s.size) (ha : a < 0) : numOf s a = numOut 0 0 1 := by simp [numOf, h, ha]
theorem numOf_nat {s : ByteArray} {a : Nat} (h : ¬ 8000 < s.size) : numOf s (a : Int) = outV (Mg.getFrom s a 10 0 0) := by
  unfold numOf; rw [if_neg h, if_neg (by omega), Int.toNat_natCast]

end Go.Proofs.YtfiabbfdnmldjaaGreatDoor.CH

/-
  What the specification's GetNum answers.
-/
namespace Go.Proofs.YtfiabbfdnmldjaaGreatDoor.CI
open Go.RowKit
open Go.Proofs.YtfiabbfdnmldjaaGreatDoor.C0
open Go.Proofs.YtfiabbfdnmldjaaGreatDoor.CH

theorem wrap_term (c i : Nat) (hi : i ≤ 9) (h9 : ¬ (i = 9 ∧ 1 < c)) : IntKind.u64.wrap ((c : Int) % 128 * 2 ^ (7 * i)) = ((c % 128 * 2 ^ (7 * i) : Nat) : Int) := by
  have ht := Mg.term_lt hi h9
  have e : ((c : Int) % 128 * 2 ^ (7 * i)) = ((c % 128 * 2 ^ (7 * i) : Nat) : Int) := by simp
  rw [e, IntKind.wrap_u64]; omega
theorem out_bad {R : Nat × Nat × Nat} {c : Nat} (hR : R = (0, 0, c)) (hc : c ≠ 0) : outV R = numOut 0 0 c := by rw [hR]; simp [outV, hc]
theorem out_good {R : Nat × Nat × Nat} {u b : Nat} (hR : R = (u, b, 0)) : outV R = numOut (Mg.unfoldI u) b 0 := by rw [hR]; rfl

set_option maxRecDepth 100000 in
set_option maxHeartbeats 1600000 in
theorem get_spec (s : ByteArray) (a : Int) (w : World) (hs : s.size ≤ maxLen) (l1 : -9223372036854775808 ≤ a) (u1 : a ≤ 9223372036854775807) :
    Calls Tryz.prog 84 #[.string s, .int .i64 a] w fun e w' => e = .returned (numOf s a) ∧ Below w.heap.size w w' := by
  unfold maxLen at hs
  by_cases h1 : 8000 < s.size
  · rw [numOf_big h1]
    go_enter Tryz.func84, Tryz.ntmps84
    go_wp2
    exact bodyPost_ret (v := numOut 0 0 2) (by simp [results, Tryz.results84, go_sem, numOut]) rfl ⟨rfl, by go_grown⟩
  by_cases h2 : a < 0
  · rw [numOf_neg h1 h2]
    go_enter Tryz.func84, Tryz.ntmps84
    go_wp2
    exact bodyPost_ret (v := numOut 0 0 1) (by simp [results, Tryz.results84, go_sem, numOut]) rfl ⟨rfl, by go_grown⟩
  obtain ⟨n, rfl⟩ := Int.eq_ofNat_of_zero_le (show 0 ≤ a by omega)
  rw [numOf_nat h1]
  have d1 : decide ((8000 : Int) < (s.size : Int)) = false := by simp; omega
  have d2 : decide ((n : Int) < 0) = false := by simp
  generalize hR : Mg.getFrom s n 10 0 0 = R
  have HR : Hid (R = Mg.getFrom s n 10 0 0) := hR.symm
  clear hR
  go_enter Tryz.func84, Tryz.ntmps84
  go_wp2
  go_loop [5, 6] (fun x i => ∃ (f k u : Nat), f + k = 10 ∧ u < 2 ^ (7 * k) ∧ (k = 0 ∨ n + k ≤ s.size) ∧ R = Mg.getFrom s n f k u ∧ x = .int .u64 u ∧ i = .int .i64 k) (fun _ i => 10 - (intOf i).toNat)
  case atStart => exact ⟨10, 0, 0, rfl, by omega, .inl rfl, HR.out, rfl, rfl⟩
  case round =>
    obtain ⟨f, k, u, hfk, hu, hnk, hRR, rfl, rfl⟩ := hrel
    clear HR
    by_cases hk : k < 10
    · obtain ⟨g, rfl⟩ : ∃ g, f = g + 1 := ⟨f - 1, by omega⟩
      by_cases hlt : n + k < s.size
      · have hcl := s[n + k].toNat_lt
        have hby : Mg.byteN s (n + k) = s[n + k].toNat := Mg.byteN_eq hlt
        have hin : (n : Int) < (s.size : Int) - (k : Int) := by omega
        by_cases h9 : k = 9 ∧ 1 < Mg.byteN s (n + k)
        · have HX : Hid (outV R = numOut 0 0 3) := out_bad (c := 3) (hRR.trans (Mg.from_wide hlt h9)) (by omega)
          rw [hby] at h9
          obtain ⟨rfl, hc1⟩ := h9
          clear hRR hby hfk hnk hu
          go_wp2
          exact bodyPost_ret (v := numOut 0 0 3) (by simp [results, Tryz.results84, go_sem, numOut]) rfl ⟨by rw [HX.out], by go_grown⟩
        · have h9' : ¬ (k = 9 ∧ 1 < s[n + k].toNat) := by rw [← hby]; exact h9
          have hwt := wrap_term s[n + k].toNat k (by omega) h9'
          have hsum := Mg.sum_lt (by omega) h9' hu
          have hstep : u + s[n + k].toNat % 128 * 2 ^ (7 * k) < 2 ^ (7 * (k + 1)) := Mg.step_lt hu
          by_cases hl : Mg.byteN s (n + k) < 128
          · have HL := hRR.trans (Mg.from_lt hlt h9 hl)
            rw [hby] at HL hl
            generalize s[n + k].toNat % 128 * 2 ^ (7 * k) = t at *
            clear hRR hby h9 hstep
            rcases (show (((k : Int) == 9) = true ∧ (s[n + k].toNat : Int) ≤ 1) ∨ ((k : Int) == 9) = false by
              by_cases e : k = 9
              · exact .inl ⟨by rw [beq_iff_eq]; omega, by omega⟩
              · exact .inr (by rw [beq_eq_false_iff_ne]; omega)) with ⟨hb9, hle⟩ | hb9
            all_goals
              clear h9'
              by_cases hz0 : s[n + k].toNat = 0 ∧ 0 < k
              · have HX : Hid (outV R = numOut 0 0 3) := out_bad (c := 3) (by rw [HL, if_pos hz0]) (by omega)
                have hzb : ((s[n + k].toNat : Int) == 0) = true := by rw [beq_iff_eq]; omega
                have hkp : (0 : Int) < (k : Int) := by omega
                clear HL hz0
                go_wp2
                exact bodyPost_ret (v := numOut 0 0 3) (by simp [results, Tryz.results84, go_sem, numOut]) rfl ⟨by rw [HX.out], by go_grown⟩
              · have HX : Hid (outV R = numOut (Mg.unfoldI (u + t)) ((n + k + 1 : Nat) : Int) 0) := out_good (by rw [HL, if_neg hz0])
                clear HL
                rcases (show ((s[n + k].toNat : Int) == 0) = false ∨ (((s[n + k].toNat : Int) == 0) = true ∧ (k : Int) ≤ 0) by
                  by_cases e : s[n + k].toNat = 0
                  · exact .inr ⟨by rw [beq_iff_eq]; omega, by omega⟩
                  · exact .inl (by rw [beq_eq_false_iff_ne]; omega)) with hzb | ⟨hzb, hkz⟩
                all_goals try (exfalso; simp at hb9 hkz; omega)
                all_goals
                  clear hz0
                  by_cases hod : (u + t) % 2 = 1
                  · have HU : Hid (Mg.unfoldI (u + t) = -(((u + t) / 2 : Nat) : Int) - 1) := Mg.unfold_odd hod
                    have hob : (((u : Int) + (t : Int)) % 2 == 1) = true := by rw [beq_iff_eq]; omega
                    clear hod
                    go_wp2
                    exact bodyPost_ret (v := numOut (-(((u : Int) + (t : Int)) / 2) - 1) ((n : Int) + (k : Int) + 1) 0) (by simp [results, Tryz.results84, go_sem, numOut]) rfl ⟨by rw [HX.out, HU.out]; rfl, by go_grown⟩
                  · have HU : Hid (Mg.unfoldI (u + t) = (((u + t) / 2 : Nat) : Int)) := Mg.unfold_even hod
                    have hob : (((u : Int) + (t : Int)) % 2 == 1) = false := by rw [beq_eq_false_iff_ne]; omega
                    clear hod
                    go_wp2
                    exact bodyPost_ret (v := numOut (((u : Int) + (t : Int)) / 2) ((n : Int) + (k : Int) + 1) 0) (by simp [results, Tryz.results84, go_sem, numOut]) rfl ⟨by rw [HX.out, HU.out]; rfl, by go_grown⟩
          · have HL : Hid (R = Mg.getFrom s n g (k + 1) (u + s[n + k].toNat % 128 * 2 ^ (7 * k))) := by
              have := hRR.trans (Mg.from_more hlt h9 hl); rw [hby] at this; exact this
            rw [hby] at hl
            generalize s[n + k].toNat % 128 * 2 ^ (7 * k) = t at *
            clear hRR hby h9
            have hb9 : ((k : Int) == 9) = false := by rw [beq_eq_false_iff_ne]; omega
            clear h9'
            go_wp2
            go_round
            case rel => exact ⟨g, k + 1, u + t, by omega, hstep, .inr (by omega), HL.out, by go_num, by go_num⟩
            case measure => simp [intOf]; omega
      · have HX : Hid (outV R = numOut 0 0 4) := out_bad (c := 4) (hRR.trans (Mg.from_short hlt)) (by omega)
        clear hRR
        have hge : (s.size : Int) - (k : Int) ≤ (n : Int) := by omega
        go_wp2
        exact bodyPost_ret (v := numOut 0 0 4) (by simp [results, Tryz.results84, go_sem, numOut]) rfl ⟨by rw [HX.out], by go_grown⟩
    · obtain rfl : f = 0 := by omega
      have HX : Hid (outV R = numOut 0 0 3) := out_bad (c := 3) hRR (by omega)
      clear hRR
      go_wp2
      exact bodyPost_ret (v := numOut 0 0 3) (by simp [results, Tryz.results84, go_sem, numOut]) rfl ⟨by rw [HX.out], by go_grown⟩
end Go.Proofs.YtfiabbfdnmldjaaGreatDoor.CI
