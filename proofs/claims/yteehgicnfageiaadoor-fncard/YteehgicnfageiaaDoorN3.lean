/-
  Numbers and texts read one after another, up to the first that is wrong: what was put comes back, wherever it stands.
-/
import Derived.Test.YteehgicnfageiaaDoorCL
namespace Go.Proofs.YteehgicnfageiaaDoor.N3
open Go.RowKit
open Go.Proofs.YteehgicnfageiaaDoor.CH Go.Proofs.YteehgicnfageiaaDoor.CK Go.Proofs.YteehgicnfageiaaDoor.CL

/-- A reader stands at a place; has anything been wrong? -/
def rdNum (s : ByteArray) (q : Int × Bool) : Int × (Int × Bool) :=
  if q.2 = false ∧ (tr s q.1).2.2 = 0 then ((tr s q.1).1, (((tr s q.1).2.1 : Nat) : Int), false) else (0, q.1, true)
def rdText (s : ByteArray) (q : Int × Bool) : ByteArray × (Int × Bool) :=
  if q.2 = false ∧ (tx s q.1).2.2 = 0 then ((tx s q.1).1, (tx s q.1).2.1, false) else (⟨#[]⟩, q.1, true)
theorem num_ok {s : ByteArray} {a : Int} (h : (tr s a).2.2 = 0) : rdNum s (a, false) = ((tr s a).1, (((tr s a).2.1 : Nat) : Int), false) := by unfold rdNum; rw [if_pos ⟨rfl, h⟩]
theorem num_ill {s : ByteArray} {a : Int} (h : ¬ (tr s a).2.2 = 0) : rdNum s (a, false) = (0, a, true) := by unfold rdNum; rw [if_neg (fun x => h x.2)]
theorem num_bad {s : ByteArray} {a : Int} : rdNum s (a, true) = (0, a, true) := by unfold rdNum; rw [if_neg (fun x => by simp at x)]
theorem text_ok {s : ByteArray} {a : Int} (h : (tx s a).2.2 = 0) : rdText s (a, false) = ((tx s a).1, (tx s a).2.1, false) := by unfold rdText; rw [if_pos ⟨rfl, h⟩]
theorem text_ill {s : ByteArray} {a : Int} (h : ¬ (tx s a).2.2 = 0) : rdText s (a, false) = (⟨#[]⟩, a, true) := by unfold rdText; rw [if_neg (fun x => h x.2)]
theorem text_bad {s : ByteArray} {a : Int} : rdText s (a, true) = (⟨#[]⟩, a, true) := by unfold rdText; rw [if_neg (fun x => by simp at x)]

/-- A text stands somewhere in a text. -/
theorem text_mid {u : ByteArray} (pre post : List UInt8) (h : u.size ≤ 8000) (hs : (pre ++ C3.putText u ++ post).length ≤ 8000) :
    tx ⟨(pre ++ C3.putText u ++ post).toArray⟩ (pre.length : Nat) = (u, (pre.length : Int) + (C3.putText u).length, 0) := by
  have e := put_list h
  have hl : (C3.putText u).length = (Mb.putNum u.size).length + u.size := by rw [e, List.length_append]; rfl
  have hT : tr ⟨(pre ++ C3.putText u ++ post).toArray⟩ (pre.length : Nat) = ((u.size : Int), pre.length + (Mb.putNum u.size).length, 0) := by
    have := num_back (u.size : Int) pre (u.data.toList ++ post) (by omega) (by omega) (by rw [e] at hs; simpa [List.append_assoc] using hs)
    rw [e]
    simpa [List.append_assoc] using this
  rw [tx_good hT (by omega) (by rw [Mn.mk_size, List.length_append, List.length_append, hl]; omega)]
  rw [Int.toNat_natCast]
  refine Prod.ext ?_ (Prod.ext ?_ rfl)
  · apply ByteArray.ext
    apply Array.ext'
    rw [Lib.extract_data]
    show ((pre ++ C3.putText u ++ post).drop (pre.length + (Mb.putNum u.size).length)).take _ = u.data.toList
    rw [e, Nat.add_sub_cancel_left]
    have : pre ++ (Mb.putNum u.size ++ u.data.toList) ++ post = (pre ++ Mb.putNum u.size) ++ (u.data.toList ++ post) := by simp [List.append_assoc]
    rw [this, ← List.length_append, List.drop_left]
    exact List.take_left' rfl
  · show ((pre.length + (Mb.putNum u.size).length : Nat) : Int) + (u.size : Int) = (pre.length : Int) + ((C3.putText u).length : Int)
    rw [hl]; omega
theorem rdNum_back (n : Int) (pre post : List UInt8) (h1 : -9223372036854775808 ≤ n) (h2 : n ≤ 9223372036854775807) (hs : (pre ++ Mb.putNum n ++ post).length ≤ 8000) {L : List UInt8} (hL : L = pre ++ Mb.putNum n ++ post) {a : Int} (ha : a = pre.length) :
    rdNum ⟨L.toArray⟩ (a, false) = (n, (((pre ++ Mb.putNum n).length : Nat) : Int), false) := by
  subst hL; subst ha
  have e := num_back n pre post h1 h2 hs
  rw [num_ok (by rw [e]), e, List.length_append]
theorem rdText_back {u : ByteArray} (pre post : List UInt8) (h : u.size ≤ 8000) (hs : (pre ++ C3.putText u ++ post).length ≤ 8000) {L : List UInt8} (hL : L = pre ++ C3.putText u ++ post) {a : Int} (ha : a = pre.length) :
    rdText ⟨L.toArray⟩ (a, false) = (u, (((pre ++ C3.putText u).length : Nat) : Int), false) := by
  subst hL; subst ha
  have e := text_mid pre post h hs
  rw [text_ok (by rw [e]), e, List.length_append]
  refine Prod.ext rfl (Prod.ext ?_ rfl)
  show (pre.length : Int) + ((C3.putText u).length : Int) = ((pre.length + (C3.putText u).length : Nat) : Int)
  omega

/-- The six of a card, one after another. -/
def r1 (s : ByteArray) := rdNum s (0, false)
def r2 (s : ByteArray) := rdNum s (r1 s).2
def r3 (s : ByteArray) := rdText s (r2 s).2
def r4 (s : ByteArray) := rdNum s (r3 s).2
def r5 (s : ByteArray) := rdNum s (r4 s).2
def r6 (s : ByteArray) := rdText s (r5 s).2
theorem six_back (a b c d : Int) (p t : ByteArray) (ha : -9223372036854775808 ≤ a ∧ a ≤ 9223372036854775807) (hb : -9223372036854775808 ≤ b ∧ b ≤ 9223372036854775807) (hc : -9223372036854775808 ≤ c ∧ c ≤ 9223372036854775807)
    (hd : -9223372036854775808 ≤ d ∧ d ≤ 9223372036854775807) (hp : p.size ≤ 8000) (ht : t.size ≤ 8000) {L : List UInt8} (hL : L = Mb.putNum a ++ Mb.putNum b ++ C3.putText p ++ Mb.putNum c ++ Mb.putNum d ++ C3.putText t) (hs : L.length ≤ 8000) :
    (r1 ⟨L.toArray⟩).1 = a ∧ (r2 ⟨L.toArray⟩).1 = b ∧ (r3 ⟨L.toArray⟩).1 = p ∧ (r4 ⟨L.toArray⟩).1 = c ∧ (r5 ⟨L.toArray⟩).1 = d ∧ (r6 ⟨L.toArray⟩).1 = t ∧ (r6 ⟨L.toArray⟩).2.2 = false := by
  have e1 : r1 ⟨L.toArray⟩ = (a, ((([] ++ Mb.putNum a).length : Nat) : Int), false) :=
    rdNum_back a [] (Mb.putNum b ++ C3.putText p ++ Mb.putNum c ++ Mb.putNum d ++ C3.putText t) ha.1 ha.2 (by rw [hL] at hs; simpa [List.append_assoc] using hs) (by rw [hL]; simp [List.append_assoc]) (by simp)
  have e2 : r2 ⟨L.toArray⟩ = (b, (((Mb.putNum a ++ Mb.putNum b).length : Nat) : Int), false) := by
    unfold r2; rw [e1]
    exact rdNum_back b (Mb.putNum a) (C3.putText p ++ Mb.putNum c ++ Mb.putNum d ++ C3.putText t) hb.1 hb.2 (by rw [hL] at hs; simpa [List.append_assoc] using hs) (by rw [hL]; simp [List.append_assoc]) (by simp)
  have e3 : r3 ⟨L.toArray⟩ = (p, (((Mb.putNum a ++ Mb.putNum b ++ C3.putText p).length : Nat) : Int), false) := by
    unfold r3; rw [e2]
    exact rdText_back (Mb.putNum a ++ Mb.putNum b) (Mb.putNum c ++ Mb.putNum d ++ C3.putText t) hp (by rw [hL] at hs; simpa [List.append_assoc] using hs) (by rw [hL]; simp [List.append_assoc]) rfl
  have e4 : r4 ⟨L.toArray⟩ = (c, (((Mb.putNum a ++ Mb.putNum b ++ C3.putText p ++ Mb.putNum c).length : Nat) : Int), false) := by
    unfold r4; rw [e3]
    exact rdNum_back c (Mb.putNum a ++ Mb.putNum b ++ C3.putText p) (Mb.putNum d ++ C3.putText t) hc.1 hc.2 (by rw [hL] at hs; simpa [List.append_assoc] using hs) (by rw [hL]; simp [List.append_assoc]) rfl
  have e5 : r5 ⟨L.toArray⟩ = (d, (((Mb.putNum a ++ Mb.putNum b ++ C3.putText p ++ Mb.putNum c ++ Mb.putNum d).length : Nat) : Int), false) := by
    unfold r5; rw [e4]
    exact rdNum_back d (Mb.putNum a ++ Mb.putNum b ++ C3.putText p ++ Mb.putNum c) (C3.putText t) hd.1 hd.2 (by rw [hL] at hs; simpa [List.append_assoc] using hs) (by rw [hL]) rfl
  have e6 : r6 ⟨L.toArray⟩ = (t, (((Mb.putNum a ++ Mb.putNum b ++ C3.putText p ++ Mb.putNum c ++ Mb.putNum d ++ C3.putText t).length : Nat) : Int), false) := by
    unfold r6; rw [e5]
    exact rdText_back (Mb.putNum a ++ Mb.putNum b ++ C3.putText p ++ Mb.putNum c ++ Mb.putNum d) [] ht (by rw [hL] at hs; simpa using hs) (by rw [hL]; simp) rfl
  rw [e1, e2, e3, e4, e5, e6]
  exact ⟨rfl, rfl, rfl, rfl, rfl, rfl, rfl⟩

/-- Where a reader stands, it stands within. -/
theorem rdNum_at (s : ByteArray) (q : Int × Bool) (h0 : 0 ≤ q.1) (h1 : q.1 ≤ s.size) : 0 ≤ (rdNum s q).2.1 ∧ (rdNum s q).2.1 ≤ s.size := by
  unfold rdNum
  split
  · next h =>
    have := tr_at s q.1 h.2
    dsimp only; omega
  · exact ⟨h0, h1⟩
theorem rdText_at (s : ByteArray) (q : Int × Bool) (h0 : 0 ≤ q.1) (h1 : q.1 ≤ s.size) : 0 ≤ (rdText s q).2.1 ∧ (rdText s q).2.1 ≤ s.size ∧ (rdText s q).1.size ≤ s.size := by
  unfold rdText
  split
  · next h =>
    obtain ⟨N, A, c, hT⟩ : ∃ N A c, tr s q.1 = (N, A, c) := ⟨_, _, _, rfl⟩
    have hh := h.2
    by_cases hc : c = 0
    · subst hc
      by_cases hN : N < 0 ∨ 8000 < N
      · rw [tx_size hT hN] at hh; simp at hh
      · by_cases hA : (s.size : Int) < A + N
        · rw [tx_short hT hN hA] at hh; simp at hh
        · rw [tx_good hT hN hA]
          refine ⟨?_, ?_, ?_⟩
          · dsimp only; omega
          · dsimp only; omega
          · dsimp only; rw [ByteArray.size_extract]; omega
    · rw [tx_bad hT hc] at hh; exact absurd hh hc
  · exact ⟨h0, h1, Nat.zero_le _⟩
end Go.Proofs.YteehgicnfageiaaDoor.N3
