/-
  Two right lines have one text just where they are one line.
-/
import Derived.Test.YtkpjdmmgdmbmnaaDoorI4
import Derived.Test.YtkpjdmmgdmbmnaaDoorQA
namespace Go.Proofs.YtkpjdmmgdmbmnaaDoor.I5
open Go.RowKit
open Go.Proofs.YtkpjdmmgdmbmnaaDoor.C0 Go.Proofs.YtkpjdmmgdmbmnaaDoor.HB
open Go.Proofs.YtkpjdmmgdmbmnaaDoor.A0 Go.Proofs.YtkpjdmmgdmbmnaaDoor.A1 Go.Proofs.YtkpjdmmgdmbmnaaDoor.A2 Go.Proofs.YtkpjdmmgdmbmnaaDoor.A3 Go.Proofs.YtkpjdmmgdmbmnaaDoor.A4 Go.Proofs.YtkpjdmmgdmbmnaaDoor.I1 Go.Proofs.YtkpjdmmgdmbmnaaDoor.I2 Go.Proofs.YtkpjdmmgdmbmnaaDoor.I3 Go.Proofs.YtkpjdmmgdmbmnaaDoor.I4
def inW (n : Int) : Prop := -9223372036854775808 ≤ n ∧ n ≤ 9223372036854775807
theorem num_inj {a b : Int} {r s : List UInt8} (ha : inW a) (hb : inW b) (h : Mb.putNum a ++ r = Mb.putNum b ++ s) : a = b ∧ r = s := by
  have h1 := Mn.get_put a [] r ha.1 ha.2
  have h2 := Mn.get_put b [] s hb.1 hb.2
  rw [List.nil_append] at h1 h2
  rw [h, h2] at h1
  simp only [Prod.mk.injEq, List.length_nil, Nat.zero_add] at h1
  have e : a = b := by rw [← Mn.unfold_fold a, ← Mn.unfold_fold b, h1.1]
  subst e
  exact ⟨rfl, List.append_cancel_left h⟩
theorem text_list {u : ByteArray} (h : u.size ≤ 8000) : C3.putText u = Mb.putNum u.size ++ u.data.toList := by
  unfold C3.putText
  rw [if_neg (by omega)]
theorem size_list (u : ByteArray) : u.data.toList.length = u.size := by rw [Array.length_toList]; rfl
theorem of_list {u v : ByteArray} (h : u.data.toList = v.data.toList) : u = v := ByteArray.ext (Array.ext' h)
theorem text_inj {u v : ByteArray} {r s : List UInt8} (hu : u.size ≤ 8000) (hv : v.size ≤ 8000) (h : C3.putText u ++ r = C3.putText v ++ s) : u = v ∧ r = s := by
  rw [text_list hu, text_list hv, List.append_assoc, List.append_assoc] at h
  obtain ⟨h1, h2⟩ := num_inj ⟨by omega, by omega⟩ ⟨by omega, by omega⟩ h
  have h3 := List.append_inj h2 (by rw [size_list, size_list]; omega)
  exact ⟨of_list h3.1, h3.2⟩
def tl (l : List Int) : Nat → Nat → List UInt8
  | _, 0 => []
  | i, n + 1 => Mb.putNum (iAt l i) ++ tl l (i + 1) n
theorem tl_snoc (l : List Int) : ∀ n i, tl l i (n + 1) = tl l i n ++ Mb.putNum (iAt l (i + n))
  | 0, i => by simp [tl]
  | n + 1, i => by
    have h := tl_snoc l n (i + 1)
    show Mb.putNum (iAt l i) ++ tl l (i + 1) (n + 1) = (Mb.putNum (iAt l i) ++ tl l (i + 1) n) ++ _
    rw [h, List.append_assoc, show i + 1 + n = i + (n + 1) by omega]
theorem tl_inj {l m : List Int} (hl : ∀ i, inW (iAt l i)) (hm : ∀ i, inW (iAt m i)) : ∀ n i, tl l i n = tl m i n → ∀ j, j < n → iAt l (i + j) = iAt m (i + j)
  | 0, _, _, j, hj => by omega
  | n + 1, i, h, j, hj => by
    obtain ⟨h1, h2⟩ := num_inj (hl i) (hm i) h
    cases j with
    | zero => exact h1
    | succ j =>
      have := tl_inj hl hm n (i + 1) h2 j (by omega)
      rw [show i + (j + 1) = i + 1 + j by omega]
      exact this
theorem up_list (x : Ln) : ∀ k, (upT x k).data.toList = Mb.putNum x.kind ++ (C3.putText x.name ++ (C3.putText x.sum ++ (Mb.putNum (x.cards.length : Int) ++ tl x.cards 0 k)))
  | 0 => by simp [upT, baseT, numL, textL, tl]
  | k + 1 => by
    have h := up_list x k
    rw [tl_snoc, Nat.zero_add]
    show (upT x k ++ numL (iAt x.cards k)).data.toList = _
    rw [ByteArray.data_append, Array.toList_append, h]
    simp [numL, List.append_assoc]
theorem iAt_in {l : List Int} (h : ∀ c ∈ l, inW c) (i : Nat) : inW (iAt l i) := by
  by_cases hi : i < l.length
  · exact h _ (List.mem_of_getElem? (iAt_get hi))
  · unfold iAt
    rw [List.getD_eq_getElem?_getD, List.getElem?_eq_none (by omega)]
    exact ⟨by decide, by decide⟩
/-- Are two lines one line? -/
def sameB (x y : Ln) : Bool := decide (x.kind = y.kind) && (decide (x.name = y.name) && (decide (x.sum = y.sum) && decide (x.cards = y.cards)))
theorem same_eq {x y : Ln} (h : sameB x y = true) : x = y := by
  unfold sameB at h
  obtain ⟨h1, h⟩ := Bool.and_eq_true_iff.1 h
  obtain ⟨h2, h⟩ := Bool.and_eq_true_iff.1 h
  obtain ⟨h3, h4⟩ := Bool.and_eq_true_iff.1 h
  obtain ⟨a, b, c, d⟩ := x
  obtain ⟨a', b', c', d'⟩ := y
  have e1 : a = a' := of_decide_eq_true h1
  have e2 : b = b' := of_decide_eq_true h2
  have e3 : c = c' := of_decide_eq_true h3
  have e4 : d = d' := of_decide_eq_true h4
  rw [e1, e2, e3, e4]
theorem right_sizes {x : Ln} (h : lineB x = true) : x.name.size ≤ 20 ∧ x.sum.size ≤ 32 := by
  unfold lineB at h
  obtain ⟨_, h⟩ := Bool.and_eq_true_iff.1 h
  obtain ⟨h1, h⟩ := Bool.and_eq_true_iff.1 h
  obtain ⟨h2, _⟩ := Bool.and_eq_true_iff.1 h
  constructor
  · rcases Bool.or_eq_true_iff.1 h1 with q | q
    · have := of_decide_eq_true q; omega
    · exact ((C4.nameB_iff _).1 q).2.1
  · rcases Bool.or_eq_true_iff.1 h2 with q | q
    · have := of_decide_eq_true q; omega
    · have := of_decide_eq_true q; omega
theorem line_inj {x y : Ln} (hx : lineB x = true) (hy : lineB y = true) (wx : LnW x) (wy : LnW y) (h : lineT x = lineT y) : sameB x y = true := by
  have h1 : (upT x x.cards.length).data.toList = (upT y y.cards.length).data.toList := by
    have e : upT x x.cards.length = upT y y.cards.length := h
    rw [e]
  rw [up_list, up_list] at h1
  have sx := right_sizes hx
  have sy := right_sizes hy
  have cx := (line_small hx).1
  have cy := (line_small hy).1
  obtain ⟨e1, h1⟩ := num_inj wx.2.2.1 wy.2.2.1 h1
  obtain ⟨e2, h1⟩ := text_inj (by omega) (by omega) h1
  obtain ⟨e3, h1⟩ := text_inj (by omega) (by omega) h1
  obtain ⟨e4, h1⟩ := num_inj ⟨by omega, by omega⟩ ⟨by omega, by omega⟩ h1
  have e5 : x.cards.length = y.cards.length := by omega
  rw [← e5] at h1
  have e6 : x.cards = y.cards := by
    apply List.ext_getElem?
    intro i
    by_cases hi : i < x.cards.length
    · have := tl_inj (iAt_in wx.2.2.2) (iAt_in wy.2.2.2) _ _ h1 i hi
      rw [Nat.zero_add] at this
      rw [iAt_get hi, iAt_get (show i < y.cards.length by omega), this]
    · rw [List.getElem?_eq_none (by omega), List.getElem?_eq_none (by omega)]
  unfold sameB
  rw [decide_eq_true e1, decide_eq_true e2, decide_eq_true e3, decide_eq_true e6]
  rfl
theorem text_same {x y : Ln} (hx : lineB x = true) (hy : lineB y = true) (wx : LnW x) (wy : LnW y) : ((lineT x).toList == (lineT y).toList) = sameB x y := by
  cases h : sameB x y with
  | true => rw [same_eq h]; simp
  | false =>
    cases h2 : ((lineT x).toList == (lineT y).toList) with
    | false => rfl
    | true => rw [line_inj hx hy wx wy (bytes_eq h2)] at h; cases h
theorem up_line {ls : List Ln} {ks : List ByteArray} : ∀ {k i : Nat}, upLk linkT ls ks k = true → i < k → lineB (lAt ls i) = true
  | 0, _, _, hi => by omega
  | k + 1, i, h, hi => by
    unfold upLk at h
    obtain ⟨h1, h2⟩ := Bool.and_eq_true_iff.1 h
    by_cases e : i = k
    · subst e
      unfold okLk at h2
      exact (Bool.and_eq_true_iff.1 h2).1
    · exact up_line h1 (by omega)
theorem audit_line {ls : List Ln} {ks : List ByteArray} (h : auditB linkT ls ks = true) {i : Nat} (hi : i < ls.length) : lineB (lAt ls i) = true := up_line (audit_parts h).2.2 hi
def upS (la lb : List Ln) : Nat → Bool
  | 0 => true
  | k + 1 => upS la lb k && sameB (lAt la k) (lAt lb k)
theorem upS_no {la lb : List Ln} {k : Nat} (h : sameB (lAt la k) (lAt lb k) = false) : ∀ m, k < m → upS la lb m = false
  | 0, hm => by omega
  | m + 1, hm => by
    unfold upS
    by_cases e : k = m
    · subst e; rw [h]; simp
    · rw [upS_no h m (by omega)]; rfl
theorem upS_yes {la lb : List Ln} {k : Nat} (h : upS la lb k = true) (h2 : sameB (lAt la k) (lAt lb k) = true) : upS la lb (k + 1) = true := by unfold upS; rw [h, h2]; rfl
def extR (la : List Ln) (ka : List ByteArray) (lb : List Ln) (kb : List ByteArray) : Bool := auditB linkT la ka && (auditB linkT lb kb && (decide (la.length ≤ lb.length) && upS la lb la.length))
end Go.Proofs.YtkpjdmmgdmbmnaaDoor.I5
