/-
  Shares over 256 elements, on numbers: products, sums, what is joined.
-/

namespace Go.Proofs.YtkpjdmmgdmbmnabDoor.Gf
/-- Twice an element. -/
def xt (a : Nat) : Nat := if 255 < 2 * a then (2 * a) ^^^ 285 else 2 * a
/-- So many rounds of a product. -/
def go : Nat → Nat → Nat → Nat → Nat
  | 0, _, _, n => n
  | k + 1, a, b, n => go k (xt a) (b / 2) (if b % 2 = 1 then n ^^^ a else n)
def mul (a b : Nat) : Nat := go 8 a b 0
theorem go_zero : ∀ k a n, go k a 0 n = n
  | 0, _, _ => rfl
  | k + 1, a, n => by unfold go; rw [if_neg (by decide)]; exact go_zero k _ n
theorem xt_lt : ∀ a, a < 256 → xt a < 256 := by decide +kernel
theorem xor_lt {a b : Nat} (ha : a < 256) (hb : b < 256) : a ^^^ b < 256 := Nat.xor_lt_two_pow (n := 8) ha hb
theorem go_lt : ∀ k a b n, a < 256 → n < 256 → go k a b n < 256
  | 0, _, _, _, _, hn => hn
  | k + 1, a, b, n, ha, hn => by
    unfold go
    refine go_lt k _ _ _ (xt_lt a ha) ?_
    split
    · exact xor_lt hn ha
    · exact hn
theorem mul_lt {a : Nat} (b : Nat) (ha : a < 256) : mul a b < 256 := go_lt 8 a b 0 ha (by decide)
theorem xt_xor : ∀ a, a < 256 → ∀ b, b < 256 → xt (a ^^^ b) = xt a ^^^ xt b := by decide +kernel
theorem swap4 (a b c d : Nat) : (a ^^^ b) ^^^ (c ^^^ d) = (a ^^^ c) ^^^ (b ^^^ d) := by
  rw [Nat.xor_assoc, Nat.xor_assoc, ← Nat.xor_assoc b c d, Nat.xor_comm b c, Nat.xor_assoc c b d]
theorem xor_half (b c : Nat) : (b ^^^ c) / 2 = b / 2 ^^^ c / 2 := by
  have := Nat.xor_div_two_pow (a := b) (b := c) (n := 1)
  simpa using this
theorem xor_odd (b c : Nat) : ((b ^^^ c) % 2 = 1) ↔ ¬ (b % 2 = 1 ↔ c % 2 = 1) := by
  have := Nat.xor_mod_two_pow (a := b) (b := c) (n := 1)
  rw [Nat.pow_one] at this
  rw [this]
  rcases Nat.mod_two_eq_zero_or_one b with h | h <;> rcases Nat.mod_two_eq_zero_or_one c with k | k <;> rw [h, k] <;> decide
/-- A product of a sum, in the second place. -/
theorem go_right : ∀ k a b c n m, go k a (b ^^^ c) (n ^^^ m) = go k a b n ^^^ go k a c m
  | 0, _, _, _, _, _ => rfl
  | k + 1, a, b, c, n, m => by
    unfold go
    rw [xor_half]
    have e : (if (b ^^^ c) % 2 = 1 then n ^^^ m ^^^ a else n ^^^ m) = (if b % 2 = 1 then n ^^^ a else n) ^^^ (if c % 2 = 1 then m ^^^ a else m) := by
      by_cases hb : b % 2 = 1 <;> by_cases hc : c % 2 = 1
      · rw [if_neg (by rw [xor_odd]; simp [hb, hc]), if_pos hb, if_pos hc, swap4, Nat.xor_self, Nat.xor_zero]
      · rw [if_pos (by rw [xor_odd]; simp [hb, hc]), if_pos hb, if_neg hc, Nat.xor_assoc, Nat.xor_assoc, Nat.xor_comm m a]
      · rw [if_pos (by rw [xor_odd]; simp [hb, hc]), if_neg hb, if_pos hc, Nat.xor_assoc]
      · rw [if_neg (by rw [xor_odd]; simp [hb, hc]), if_neg hb, if_neg hc]
    rw [e]
    exact go_right k (xt a) (b / 2) (c / 2) _ _
theorem mul_right (a b c : Nat) : mul a (b ^^^ c) = mul a b ^^^ mul a c := go_right 8 a b c 0 0
theorem go_left : ∀ k a d b n m, a < 256 → d < 256 → go k (a ^^^ d) b (n ^^^ m) = go k a b n ^^^ go k d b m
  | 0, _, _, _, _, _, _, _ => rfl
  | k + 1, a, d, b, n, m, ha, hd => by
    unfold go
    rw [xt_xor a ha d hd]
    have e : (if b % 2 = 1 then n ^^^ m ^^^ (a ^^^ d) else n ^^^ m) = (if b % 2 = 1 then n ^^^ a else n) ^^^ (if b % 2 = 1 then m ^^^ d else m) := by
      by_cases hb : b % 2 = 1
      · rw [if_pos hb, if_pos hb, if_pos hb, swap4]
      · rw [if_neg hb, if_neg hb, if_neg hb]
    rw [e]
    exact go_left k _ _ _ _ _ (xt_lt a ha) (xt_lt d hd)
/-- In the first place. -/
theorem mul_left {a d : Nat} (b : Nat) (ha : a < 256) (hd : d < 256) : mul (a ^^^ d) b = mul a b ^^^ mul d b := go_left 8 a d b 0 0 ha hd
theorem mul_zero_right (a : Nat) : mul a 0 = 0 := go_zero 8 a 0
theorem mul_zero_left (b : Nat) : mul 0 b = 0 := by
  have h := mul_left (a := 0) (d := 0) b (by decide) (by decide)
  rw [Nat.xor_self, Nat.xor_self] at h
  exact h
/-- The number by which an element makes 1: it to the power of 254. -/
def invGo : Nat → Nat → Nat → Nat
  | 0, _, n => n
  | k + 1, p, n => invGo k (mul p p) (mul n (mul p p))
def inv (a : Nat) : Nat := invGo 7 a 1
theorem mul_inv : ∀ a, a < 256 → 1 ≤ a → mul a (inv a) = 1 := by decide +kernel
theorem inv_lt : ∀ a, a < 256 → inv a < 256 := by decide +kernel

/-- A sum over a list. -/
def sum : List Nat → Nat
  | [] => 0
  | x :: r => x ^^^ sum r
/-- A sum of bits. -/
def bits (m : Nat) : List Nat := ((List.range 8).filter fun t => m / 2 ^ t % 2 = 1).map fun t => 2 ^ t
theorem bits_sum : ∀ m, m < 256 → sum (bits m) = m := by decide +kernel
/-- What goes over sums and is 0 at each bit is 0. -/
theorem zero_of_bits (g : Nat → Nat) (h0 : g 0 = 0) (hx : ∀ a b, a < 256 → b < 256 → g (a ^^^ b) = g a ^^^ g b) (hb : ∀ t, t < 8 → g (2 ^ t) = 0) (m : Nat) (hm : m < 256) : g m = 0 := by
  have key : ∀ l : List Nat, (∀ t ∈ l, t < 8) → g (sum (l.map fun t => 2 ^ t)) = 0 ∧ sum (l.map fun t => 2 ^ t) < 256 := by
    intro l
    induction l with
    | nil => intro _; exact ⟨h0, by decide⟩
    | cons t r ih =>
      intro hl
      have ht := hl t (List.mem_cons_self ..)
      obtain ⟨i1, i2⟩ := ih (fun q hq => hl q (List.mem_cons_of_mem _ hq))
      have hp : 2 ^ t < 256 := Nat.pow_lt_pow_right (a := 2) (n := 8) (by decide) ht
      simp only [List.map_cons, sum]
      exact ⟨by rw [hx _ _ hp i2, hb t ht, i1]; rfl, xor_lt hp i2⟩
  have := (key ((List.range 8).filter fun t => m / 2 ^ t % 2 = 1) (fun t ht => List.mem_range.1 (List.mem_filter.1 ht).1)).1
  rw [show sum (((List.range 8).filter fun t => m / 2 ^ t % 2 = 1).map fun t => 2 ^ t) = m from bits_sum m hm] at this
  exact this

/-- The weight of number i among so many places, as far as place k. -/
def wUp (xs : List Nat) (i : Nat) : Nat → Nat
  | 0 => 1
  | k + 1 => if k = i then wUp xs i k else mul (wUp xs i k) (mul (xs.getD k 0) (inv (xs.getD i 0 ^^^ xs.getD k 0)))
/-- What is joined of bytes by weights. -/
def jUp (ws : Nat → Nat) (d : Nat → Nat) : Nat → Nat
  | 0 => 0
  | i + 1 => jUp ws d i ^^^ mul (ws i) (d i)
def pX (x : Nat) : Nat → Nat
  | 0 => 1
  | j + 1 => mul (pX x j) x
/-- A share's byte, of so many masks. -/
def shB (s : Nat) (ms : Nat → Nat) (x : Nat) : Nat → Nat
  | 0 => s
  | j + 1 => shB s ms x j ^^^ mul (ms j) (pX x (j + 1))
theorem jUp_sum (ws d e : Nat → Nat) : ∀ k, jUp ws (fun i => d i ^^^ e i) k = jUp ws d k ^^^ jUp ws e k
  | 0 => by simp [jUp]
  | k + 1 => by simp only [jUp]; rw [jUp_sum ws d e k, mul_right, swap4]
theorem jUp_lt {ws : Nat → Nat} (hw : ∀ i, ws i < 256) (d : Nat → Nat) : ∀ k, jUp ws d k < 256
  | 0 => by simp [jUp]
  | k + 1 => xor_lt (jUp_lt hw d k) (mul_lt _ (hw k))
theorem jUp_zero (ws : Nat → Nat) : ∀ k, jUp ws (fun _ => 0) k = 0
  | 0 => rfl
  | k + 1 => by simp only [jUp]; rw [jUp_zero ws k, mul_zero_right]; rfl
/-- What weights must do: they leave a number that is in all shares, and strike each mask. -/
def check (ws : Nat → Nat) (x : Nat → Nat) (need : Nat) : Bool :=
  (List.range 8).all (fun t => jUp ws (fun _ => 2 ^ t) need == 2 ^ t) && (List.range (need - 1)).all (fun j => (List.range 8).all fun t => jUp ws (fun i => mul (2 ^ t) (pX (x i) (j + 1))) need == 0)
theorem joined (ws x : Nat → Nat) (need : Nat) (hc : check ws x need = true) (s : Nat) (hs : s < 256) (ms : Nat → Nat) (hm : ∀ j, ms j < 256) : ∀ m, m ≤ need - 1 → jUp ws (fun i => shB s ms (x i) m) need = s
  | 0, _ => by
    have h1 := (Bool.and_eq_true_iff.1 hc).1
    have key : jUp ws (fun _ => s) need ^^^ s = 0 := by
      refine zero_of_bits (fun s => jUp ws (fun _ => s) need ^^^ s) ?_ (fun a b _ _ => ?_) (fun t ht => ?_) s hs
      · show jUp ws (fun _ => 0) need ^^^ 0 = 0
        rw [jUp_zero]; rfl
      · show jUp ws (fun _ => a ^^^ b) need ^^^ (a ^^^ b) = _
        rw [jUp_sum ws (fun _ => a) (fun _ => b), swap4]
      · have := List.all_eq_true.1 h1 t (List.mem_range.2 ht)
        have e : jUp ws (fun _ => 2 ^ t) need = 2 ^ t := by simpa using this
        show jUp ws (fun _ => 2 ^ t) need ^^^ 2 ^ t = 0
        rw [e, Nat.xor_self]
    have h2 : jUp ws (fun _ => s) need = s := by
      have h3 : (jUp ws (fun _ => s) need ^^^ s) ^^^ s = s := by rw [key, Nat.zero_xor]
      rw [Nat.xor_assoc, Nat.xor_self, Nat.xor_zero] at h3
      exact h3
    exact h2
  | m + 1, hm1 => by
    have ih := joined ws x need hc s hs ms hm m (by omega)
    have h1 := (Bool.and_eq_true_iff.1 hc).2
    have key : jUp ws (fun i => mul (ms m) (pX (x i) (m + 1))) need = 0 := by
      refine zero_of_bits (fun q => jUp ws (fun i => mul q (pX (x i) (m + 1))) need) ?_ (fun a b ha hb => ?_) (fun t ht => ?_) (ms m) (hm m)
      · show jUp ws (fun i => mul 0 (pX (x i) (m + 1))) need = 0
        simp only [mul_zero_left]
        exact jUp_zero ws need
      · show jUp ws (fun i => mul (a ^^^ b) (pX (x i) (m + 1))) need = _
        simp only [mul_left _ ha hb]
        exact jUp_sum ws _ _ need
      · have h2 := List.all_eq_true.1 h1 m (List.mem_range.2 (by omega))
        have h3 := List.all_eq_true.1 h2 t (List.mem_range.2 ht)
        simpa using h3
    show jUp ws (fun i => shB s ms (x i) m ^^^ mul (ms m) (pX (x i) (m + 1))) need = s
    rw [jUp_sum ws (fun i => shB s ms (x i) m), ih, key, Nat.xor_zero]
/-- The places of the law's choice: from one on, downwards, round. -/
def chosen (cards start i : Nat) : Nat := (start + 2 * cards - i) % cards + 1
def chosenL (cards start need : Nat) : List Nat := (List.range need).map (chosen cards start)
def weights (xs : List Nat) (need : Nat) : List Nat := (List.range need).map fun i => wUp xs i need
theorem chosen_check : ∀ cards, cards < 7 → ∀ start, start < cards → ∀ need, need < cards → check (fun i => (weights (chosenL cards start (need + 1)) (need + 1)).getD i 0) (chosen cards start) (need + 1) = true := by decide +kernel
end Go.Proofs.YtkpjdmmgdmbmnabDoor.Gf
