/-
  A region that draws its order, by what holds of each operation that has come up: one step an operation, not one way an order.
-/
import Derived.Deep.RegionHeld3
import Derived.WalkKit
import Derived.RowKit
namespace Go.Proofs.YteehgicnfageiaaDoor.RI
open Go Go.RowKit
theorem count_drop (p q : Nat → Bool) (h : ∀ j, q j = true → p j = true) (i : Nat) (hp : p i = true) (hq : q i = false) : ∀ l : List Nat, i ∈ l → l.countP q < l.countP p
  | [], hi => by cases hi
  | x :: r, hi => by
    have hle : r.countP q ≤ r.countP p := List.countP_mono_left (fun j _ hj => h j hj)
    rcases List.mem_cons.1 hi with e | hm
    · subst e
      rw [List.countP_cons_of_pos hp, List.countP_cons_of_neg (by rw [hq]; decide)]
      omega
    · have ih := count_drop p q h i hp hq r hm
      by_cases hx : q x = true
      · rw [List.countP_cons_of_pos hx, List.countP_cons_of_pos (h x hx)]; omega
      · rw [List.countP_cons_of_neg hx]
        by_cases hx2 : p x = true
        · rw [List.countP_cons_of_pos hx2]; omega
        · rw [List.countP_cons_of_neg hx2]; exact ih
def togo (n : Nat) (l : Array Bool) : Nat := (List.range n).countP fun i => !l.getD i true
theorem getD_set (l : Array Bool) (i j : Nat) (d : Bool) : (l.setIfInBounds i true).getD j d = if i = j ∧ i < l.size then true else l.getD j d := by
  by_cases h : i = j
  · subst h
    by_cases hs : i < l.size
    · simp [hs]
    · simp [hs]
  · simp [h, Array.getElem?_setIfInBounds_ne]
theorem togo_set {n i : Nat} {l : Array Bool} (hi : i < n) (h : l.getD i true = false) : togo n (l.setIfInBounds i true) < togo n l := by
  unfold togo
  refine count_drop _ _ (fun j hj => ?_) i (by rw [h]; rfl) ?_ _ (List.mem_range.2 hi)
  · rw [getD_set] at hj
    split at hj
    · cases hj
    · exact hj
  · rw [getD_set]
    have : i < l.size := by
      rcases Nat.lt_or_ge i l.size with q | q
      · exact q
      · simp [Array.getElem?_eq_none q] at h
    simp [this]
theorem togo_le (n : Nat) (l : Array Bool) : togo n l ≤ n := by
  unfold togo
  exact Nat.le_trans List.countP_le_length (by simp)
section
variable {P : Program} {ops : Array Oper} {Q : Exit → Act → World → Prop} {md : Region.Mode}
/-- Every operation waits for earlier ones alone. -/
def early (md : Region.Mode) (ops : Array Oper) : Bool := (List.range ops.size).all fun i => ((ops[i]?).map fun o => o.after.toList.all fun e => !Region.binds md e || decide (e.on < i)).getD true
/-- Then nothing is ready only when all have come up. -/
theorem all_listed {l : Array Bool} (hl : l.size = ops.size) (hb : early md ops = true) (h : Region.ready md ops l = []) : ∀ n, n < ops.size → l.getD n true = true := by
  intro n
  induction n using Nat.strongRecOn with
  | ind n ih =>
    intro hn
    cases hd : l.getD n true with
    | true => rfl
    | false =>
      obtain ⟨o, ho⟩ : ∃ o, ops[n]? = some o := ⟨_, Array.getElem?_eq_getElem hn⟩
      have hbn := List.all_eq_true.1 hb n (List.mem_range.2 hn)
      rw [ho] at hbn
      have hm : n ∈ Region.ready md ops l := mem_ready.2 ⟨hd, o, ho, fun e he hbe => by
        have h0 := List.all_eq_true.1 hbn e (Array.mem_toList_iff.2 he)
        rw [hbe] at h0
        have h1 : e.on < n := by simpa using h0
        have h2 := ih e.on h1 (by omega)
        have h3 : e.on < l.size := by omega
        simp [h3] at h2 ⊢
        exact h2⟩
      rw [h] at hm
      cases hm
/-- The law. -/
theorem any_inv {J : Array Bool → Act → World → Prop} (hstep : ∀ l a w i, J l a w → i ∈ Region.ready md ops l → wpOp P ops Q i (J (l.setIfInBounds i true)) a w)
    (hdone : ∀ l a w, J l a w → Region.ready md ops l = [] → Q .normal a w) : ∀ fuel l a w, togo ops.size l ≤ fuel → J l a w → wpAny P md ops Q fuel l a w
  | 0, l, a, w, hf, hJ => by
    have hr : Region.ready md ops l = [] := by
      apply List.eq_nil_iff_forall_not_mem.2
      intro i hi
      obtain ⟨h1, o, ho, _⟩ := mem_ready.1 hi
      have := togo_set (n := ops.size) (Array.getElem?_eq_some_iff.1 ho).1 h1
      omega
    exact ⟨hr, hdone l a w hJ hr⟩
  | fuel + 1, l, a, w, hf, hJ => by
    refine ⟨hdone l a w hJ, fun i hi => ?_⟩
    obtain ⟨h1, o, ho, _⟩ := mem_ready.1 hi
    have hlt := togo_set (n := ops.size) (Array.getElem?_eq_some_iff.1 ho).1 h1
    exact wpOp_mono (fun a' w' h' => any_inv hstep hdone fuel _ a' w' (by omega) h') (hstep l a w i hJ hi)
theorem wp_region_inv {id : Nat} {a : Act} {w : World} {J : Array Bool → Act → World → Prop} (hm : P.follows .mixedOrders = true) (h0 : J (Array.replicate ops.size false) a w.drew)
    (hstep : ∀ l a w i, J l a w → i ∈ Region.ready .any ops l → wpOp P ops Q i (J (l.setIfInBounds i true)) a w)
    (hdone : ∀ l a w, J l a w → Region.ready .any ops l = [] → Q .normal a w) : (Code.region id ops true).wp P Q a w :=
  wp_region_any hm (any_inv hstep hdone _ _ _ _ (togo_le _ _) h0)
/-- One operation, what is to be shown behind it kept shut. -/
theorem wpOp_one {i : Nat} {o : Oper} {a : Act} {w : World} {K : Act → World → Prop} (ho : ops[i]? = some o)
    (h : ∀ K' : Act → World → Prop, Shut (∀ a w, K a w → K' a w) → if Region.wanted o (yielded ops a.tmps) = true then Oper.wp P o a w K' Q else K' (a.put o.dst undef) w) : wpOp P ops Q i K a w :=
  wpOp_step ho (fun K' hK => h K' hK)
theorem listed_of {l : Array Bool} {i : Nat} (h : l.getD i false = true) : l.getD i true = true := by
  rcases Nat.lt_or_ge i l.size with q | q
  · simp [q] at h ⊢; exact h
  · simp [Array.getElem?_eq_none q] at h
theorem cons_of {α : Type} {l : List α} {n : Nat} (h : l.length = n + 1) : ∃ x t, l = x :: t ∧ t.length = n := by
  cases l with
  | nil => simp at h
  | cons x t => exact ⟨x, t, rfl, by simpa using h⟩
end
/-- What is known of the slots while operations come up: 'd k' is the slot of number k; 'old' are slots that the region only reads; 'good' is what a slot that has come up holds. -/
structure Reg (m n : Nat) (d : Nat → Nat) (old : List (Nat × Value)) (good : Nat → Value → World → Prop) (inv : World → Prop) (l : Array Bool) (a : Act) (w : World) : Prop where
  size : l.size = n
  tmps : a.tmps.size = m
  defs : a.defers = []
  olds : ∀ x ∈ old, a.tmps.getD x.1 undef = x.2
  goods : ∀ k, k < n → l.getD k true = true → good k (a.tmps.getD (d k) undef) w
  inv : inv w
theorem Reg.put {m n : Nat} {d : Nat → Nat} {old : List (Nat × Value)} {good : Nat → Value → World → Prop} {inv : World → Prop} {l : Array Bool} {a : Act} {w w' : World} (h : Reg m n d old good inv l a w) (i : Nat) (v : Value)
    (hi : i < n) (hd : d i < m) (hold : old.all (fun x => x.1 != d i) = true) (hinj : (List.range n).all (fun k => k == i || d k != d i) = true) (hst : ∀ k x, k < n → good k x w → good k x w') (hg : good i v w') (hinv : inv w') :
    Reg m n d old good inv (l.setIfInBounds i true) (a.put (some (d i)) v) w' := by
  refine ⟨by simp [h.size], by simp [Act.put, h.tmps], h.defs, fun x hx => ?_, fun k hk hl => ?_, hinv⟩
  · have hne := List.all_eq_true.1 hold x hx
    have hne' : ¬ d i = x.1 := fun e => by simp [e] at hne
    rw [← h.olds x hx]
    simp [Act.put, Array.getElem?_setIfInBounds_ne hne']
  · by_cases hki : k = i
    · subst hki
      have : (a.put (some (d k)) v).tmps.getD (d k) undef = v := by simp [Act.put, h.tmps, hd]
      rw [this]; exact hg
    · have h1 := List.all_eq_true.1 hinj k (List.mem_range.2 hk)
      have hne : ¬ d i = d k := fun e => by simp [e, hki] at h1
      have h2 : (a.put (some (d i)) v).tmps.getD (d k) undef = a.tmps.getD (d k) undef := by simp [Act.put, Array.getElem?_setIfInBounds_ne hne]
      rw [h2]
      refine hst k _ hk (h.goods k hk ?_)
      rw [getD_set] at hl
      rw [if_neg (fun q => hki q.1.symm)] at hl
      exact hl
end Go.Proofs.YteehgicnfageiaaDoor.RI
