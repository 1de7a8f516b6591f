/-
  What is read behind a put, and behind a crash in the midst of it, on lists.
-/
import Derived.Test.YtfiabbfdnmldjaaGreatDoorW0
namespace Go.Proofs.YtfiabbfdnmldjaaGreatDoor.W1
open Go.Proofs.YtfiabbfdnmldjaaGreatDoor.C6 Go.Proofs.YtfiabbfdnmldjaaGreatDoor.C7 Go.Proofs.YtfiabbfdnmldjaaGreatDoor.U0 Go.Proofs.YtfiabbfdnmldjaaGreatDoor.U2 Go.Proofs.YtfiabbfdnmldjaaGreatDoor.U4 Go.Proofs.YtfiabbfdnmldjaaGreatDoor.U8 Go.Proofs.YtfiabbfdnmldjaaGreatDoor.U9 Go.Proofs.YtfiabbfdnmldjaaGreatDoor.V0 Go.Proofs.YtfiabbfdnmldjaaGreatDoor.V3 Go.Proofs.YtfiabbfdnmldjaaGreatDoor.V4 Go.Proofs.YtfiabbfdnmldjaaGreatDoor.W0
open Go.Proofs.YtfiabbfdnmldjaaGreatDoor.Dk
theorem get_at (n : Int) (L pre post : List UInt8) (hn : ok64 n) (hL : L = pre ++ Mb.putNum n ++ post) : rr ⟨L.toArray⟩ pre.length = (Mb.foldU n, pre.length + (Mb.putNum n).length, 0) := by
  subst hL
  exact Mn.get_put n pre post hn.1 hn.2
/-- A head is read again. -/
theorem head_back (g s z : Int) (room : Nat) (hg : ok64 g) (g0 : 0 ≤ g) (hs : 0 ≤ s ∧ s ≤ 1) (hz : ok64 z) (z0 : 0 ≤ z) (z1 : z ≤ room) : seenR (headB g s z) room = (g, s, z, 0) := by
  have hn := nums_len g s z
  have hb := C8.opened_seal (t := ⟨(nums g s z).toArray⟩) (by rw [size_mk]; omega)
  rw [seal_nums] at hb
  rw [show (⟨(headL g s z).toArray⟩ : ByteArray) = headB g s z from rfl, opened_eq] at hb
  simp only [out, Value.agg.injEq, Array.mk.injEq, List.cons.injEq, Value.string.injEq, Value.int.injEq, and_true, true_and] at hb
  obtain ⟨ht, hc⟩ := hb
  have hbody : body (headB g s z) = ⟨(nums g s z).toArray⟩ := by
    unfold textU at ht
    rw [if_pos hc] at ht
    exact ht
  have hso : ok64 s := ⟨by omega, by omega⟩
  have e1 : R1 ⟨(nums g s z).toArray⟩ = (Mb.foldU g, (Mb.putNum g).length, 0) := by
    have := get_at g (nums g s z) [] (Mb.putNum s ++ Mb.putNum z) hg (by simp [nums])
    simpa using this
  have a1 : aOf (R1 ⟨(nums g s z).toArray⟩) = (Mb.putNum g).length := by rw [e1]; rfl
  have e2 : R2 ⟨(nums g s z).toArray⟩ = (Mb.foldU s, (Mb.putNum g).length + (Mb.putNum s).length, 0) := by
    show rr _ (aOf (R1 _)) = _
    rw [a1]
    exact get_at s (nums g s z) (Mb.putNum g) (Mb.putNum z) hso (by simp [nums])
  have a2 : aOf (R2 ⟨(nums g s z).toArray⟩) = (Mb.putNum g ++ Mb.putNum s).length := by rw [e2, List.length_append]; rfl
  have e3 : R3 ⟨(nums g s z).toArray⟩ = (Mb.foldU z, (Mb.putNum g ++ Mb.putNum s).length + (Mb.putNum z).length, 0) := by
    show rr _ (aOf (R2 _)) = _
    rw [a2]
    exact get_at z (nums g s z) (Mb.putNum g ++ Mb.putNum s) [] hz (by simp [nums])
  have n1 : nOf (R1 ⟨(nums g s z).toArray⟩) = g := by rw [e1]; exact Mn.unfold_fold g
  have n2 : nOf (R2 ⟨(nums g s z).toArray⟩) = s := by rw [e2]; exact Mn.unfold_fold s
  have n3 : nOf (R3 ⟨(nums g s z).toArray⟩) = z := by rw [e3]; exact Mn.unfold_fold z
  have hok : HeadOk (headB g s z) room := by
    unfold HeadOk HeadP
    rw [hbody, n1, n2, n3, e1, e2, e3]
    exact ⟨rfl, rfl, rfl, rfl, g0, hs, z0, z1⟩
  rw [seen_yes hc hok, hbody, n1, n2, n3]
theorem runS_cons {ss : List ByteArray} {ps : List Pend} {s : St} {l : List St} (h : (runS ss ps (s :: l)).k = 0) : (doSt ss ps s).k = 0 ∧ runS ss ps (s :: l) = runS (doSt ss ps s).ss (doSt ss ps s).ps l := by
  have e : runS ss ps (s :: l) = if (doSt ss ps s).k = 0 then runS (doSt ss ps s).ss (doSt ss ps s).ps l else ill (doSt ss ps s).k := rfl
  by_cases g : (doSt ss ps s).k = 0
  · rw [e, if_pos g]; exact ⟨g, rfl⟩
  · rw [e, if_neg g] at h; exact absurd h g
theorem flush_step {ss : List ByteArray} {ps : List Pend} {l : List St} (h : (runS ss ps (.flush :: l)).k = 0) : rightB ss ps = true ∧ rightB (flushOf ss ps) [] = true ∧ runS ss ps (.flush :: l) = runS (flushOf ss ps) [] l := by
  obtain ⟨h1, e1⟩ := runS_cons h
  obtain ⟨h2, e2, h3⟩ := flush_ok (ss := ss) (ps := ps) h1
  rw [e1, show doSt ss ps .flush = flushR ss ps from rfl, e2]
  exact ⟨h2, h3, rfl⟩
theorem write_step {ss : List ByteArray} {ps : List Pend} {i : Int} {d : ByteArray} {l : List St} (h : (runS ss ps (.write i d :: l)).k = 0) : rightB ss (ps ++ [(i, d)]) = true ∧ runS ss ps (.write i d :: l) = runS ss (ps ++ [(i, d)]) l := by
  obtain ⟨h1, e1⟩ := runS_cons h
  obtain ⟨-, -, -, -, -, e2, h3⟩ := write_ok (ss := ss) (ps := ps) (i := i) (d := d) h1
  rw [e1, show doSt ss ps (.write i d) = writeR ss ps i d from rfl, e2]
  exact ⟨h3, rfl⟩
theorem getD_some {ss : List ByteArray} {j : Nat} (h : j < ss.length) : ss[j]? = some (ss.getD j ⟨#[]⟩) := by
  rw [List.getD_eq_getElem?_getD, List.getElem?_eq_getElem h]; rfl
/-- The sectors behind the flush of the text. -/
def afterT (ss : List ByteArray) (ps : List Pend) (f : Nat) (t : ByteArray) : List ByteArray := flushOf ss (ps ++ pendL f t (secN t))
theorem afterT_get {ss : List ByteArray} {ps : List Pend} {f : Nat} {t : ByteArray} (hR : rightB ss (ps ++ pendL f t (secN t)) = true) (j : Nat) (hj : j < ss.length) :
    (afterT ss ps f t)[j]? = some (if f ≤ j ∧ j < f + secN t then chunk t (j - f) else sect ss ps j) := by
  obtain ⟨-, -, -, -, h5⟩ := (right_iff _ _).1 hR
  unfold afterT
  rw [flushOf_get _ ss j _ (getD_some hj) (fun p hp => ⟨(h5 p hp).1, (h5 p hp).2.1⟩), readOf_append, read_pend]
  rfl
theorem put_text {ss : List ByteArray} {ps : List Pend} {f : Nat} {t : ByteArray} {l : List St} (h : (runS ss ps (wrL f t (secN t) ++ .flush :: l)).k = 0) :
    rightB ss (ps ++ pendL f t (secN t)) = true ∧ rightB (afterT ss ps f t) [] = true ∧ runS ss ps (wrL f t (secN t) ++ .flush :: l) = runS (afterT ss ps f t) [] l := by
  obtain ⟨h1, e1⟩ := runS_split h
  rw [e1] at h
  obtain ⟨e2, -⟩ := run_wr f t ss ps _ h1
  rw [e2] at h e1
  obtain ⟨h3, h4, e3⟩ := flush_step h
  exact ⟨h3, h4, e1.trans e3⟩
theorem put_all {ss : List ByteArray} {ps : List Pend} {f : Nat} {t h : ByteArray} (hk : (runS ss ps (putL f t h)).k = 0) :
    rightB ss (ps ++ pendL f t (secN t)) = true ∧ rightB ((afterT ss ps f t).set 0 h) [] = true ∧ runS ss ps (putL f t h) = ⟨(afterT ss ps f t).set 0 h, [], ⟨#[]⟩, 0⟩ := by
  unfold putL at hk ⊢
  obtain ⟨h1, -, e1⟩ := put_text hk
  rw [e1] at hk
  obtain ⟨-, e2⟩ := write_step hk
  rw [e2] at hk
  obtain ⟨-, h4, e3⟩ := flush_step hk
  refine ⟨h1, h4, e1.trans (e2.trans e3)⟩
theorem sect_none (ss : List ByteArray) (j : Nat) : sect ss [] j = ss.getD j ⟨#[]⟩ := rfl
theorem zeroth_none (ss : List ByteArray) : zeroth ss [] = ss.getD 0 ⟨#[]⟩ := rfl
theorem gath_congr {ss ss' : List ByteArray} {ps ps' : List Pend} {f f' z : Nat} : ∀ i, (∀ k, k < i → 64 * k < z → sect ss ps (f + k) = sect ss' ps' (f' + k)) → gath ss ps f z i = gath ss' ps' f' z i
  | 0, _ => rfl
  | i + 1, h => by
    have ih := gath_congr i (fun k hk => h k (by omega))
    show gath ss ps f z i ++ _ = gath ss' ps' f' z i ++ _
    rw [ih]
    by_cases hz : 64 * i < z
    · rw [h i (by omega) hz]
    · have e : want z i = 0 := by unfold want; omega
      rw [e, List.take_zero, List.take_zero]
/-- Sectors in which a text stands give it. -/
theorem gath_text {ss : List ByteArray} {ps : List Pend} {f : Nat} {t : ByteArray} : ∀ i, (∀ k, k < i → 64 * k < t.size → sect ss ps (f + k) = chunk t k) → gath ss ps f t.size i = t.data.toList.take (64 * i)
  | 0, _ => by simp [gath]
  | i + 1, h => by
    have ih := gath_text i (fun k hk => h k (by omega))
    show gath ss ps f t.size i ++ _ = _
    rw [ih]
    by_cases hz : 64 * i < t.size
    · rw [h i (by omega) hz, chunk_list, List.take_take]
      have e : min (want t.size i) 64 = min 64 (t.data.toList.drop (64 * i)).length := by rw [List.length_drop, size_list]; unfold want; omega
      rw [e, ← List.take_eq_take_min, show 64 * (i + 1) = 64 * i + 64 by omega, List.take_add]
    · have e : want t.size i = 0 := by unfold want; omega
      rw [e, List.take_zero, List.append_nil, List.take_of_length_le (by rw [size_list]; omega), List.take_of_length_le (by rw [size_list]; omega)]
/-- A right disk on which nothing is pending, whose first sector is a head and whose side bears the text. -/
theorem read_there {C : List ByteArray} {t : ByteArray} {g : Int} {s : Nat} (hC : rightB C [] = true) (hg : ok64 g) (g0 : 0 ≤ g) (hs : s ≤ 1) (hz : t.size ≤ halfN C.length * 64) (h0 : C[0]? = some (headB g s t.size)) (ht : ∀ k, 64 * k < t.size → sect C [] (firstN C.length s + k) = chunk t k) :
    readA C [] = ⟨C, [], t, g, 0⟩ := by
  obtain ⟨c1, c2, -, -, -⟩ := (right_iff _ _).1 hC
  have hh := half_le _ c2
  have e0 : zeroth C [] = headB g s t.size := by rw [zeroth_none, List.getD_eq_getElem?_getD, h0]; rfl
  have es : seenD C [] = (g, (s : Int), (t.size : Int), 0) := by
    unfold seenD
    rw [e0]
    exact head_back g s t.size _ hg g0 ⟨by omega, by omega⟩ ⟨by omega, by omega⟩ (by omega) (by omega)
  have hside : SideOk C [] (firstN C.length s) t.size := fun i _ hi => by
    rw [ht i hi, chunk_size]
    exact Nat.le_refl _
  have hk : codeD C [] = 0 := by
    unfold codeD
    rw [if_neg (by rw [hC]; simp), es]
    simp only [Int.toNat_natCast, if_true]
    rw [if_pos hside]
  rw [readA_eq, if_pos hk]
  unfold textD
  rw [es]
  simp only [Int.toNat_natCast]
  rw [gath_text 32 (fun k _ h => ht k h), List.take_of_length_le (by rw [size_list]; omega)]
/-- A disk that is alike in its first sector and in the side that is read reads alike. -/
theorem read_same {ss C : List ByteArray} (hC : rightB C [] = true) (hl : C.length = ss.length) (h0 : C[0]? = ss[0]?) (hk : codeD ss [] = 0) (hs : ∀ i, i < halfN ss.length → C[firstN ss.length (seenD ss []).2.1.toNat + i]? = ss[firstN ss.length (seenD ss []).2.1.toNat + i]?) :
    (readA C []).k = 0 ∧ (readA C []).t = (readA ss []).t ∧ (readA C []).g = (readA ss []).g := by
  have hR := code_right hk
  have e0 : zeroth C [] = zeroth ss [] := by rw [zeroth_none, zeroth_none, List.getD_eq_getElem?_getD, List.getD_eq_getElem?_getD, h0]
  have es : seenD C [] = seenD ss [] := by unfold seenD; rw [e0, hl]
  have hk0 := hk
  unfold codeD at hk
  rw [if_neg (by rw [hR]; simp)] at hk
  have h2 : (seenD ss []).2.2.2 = 0 := by
    by_cases h : (seenD ss []).2.2.2 = 0
    · exact h
    · rw [if_neg h] at hk; exact hk
  rw [if_pos h2] at hk
  have hside : SideOk ss [] (firstN ss.length (seenD ss []).2.1.toNat) (seenD ss []).2.2.1.toNat := by
    by_cases h : SideOk ss [] (firstN ss.length (seenD ss []).2.1.toNat) (seenD ss []).2.2.1.toNat
    · exact h
    · rw [if_neg h] at hk; exact absurd hk (by decide)
  obtain ⟨-, -, -, z0, z1⟩ := seen_ok (x := zeroth ss []) (room := halfN ss.length * 64) h2
  have z2 : (seenD ss []).2.2.1.toNat ≤ halfN ss.length * 64 := by
    show (seenR (zeroth ss []) (halfN ss.length * 64)).2.2.1.toNat ≤ _
    omega
  have hsect : ∀ i, 64 * i < (seenD ss []).2.2.1.toNat → sect C [] (firstN ss.length (seenD ss []).2.1.toNat + i) = sect ss [] (firstN ss.length (seenD ss []).2.1.toNat + i) := fun i hi => by
    rw [sect_none, sect_none, List.getD_eq_getElem?_getD, List.getD_eq_getElem?_getD, hs i (by omega)]
  have hsideC : SideOk C [] (firstN ss.length (seenD ss []).2.1.toNat) (seenD ss []).2.2.1.toNat := fun i hi h => by
    rw [hsect i h]; exact hside i hi h
  have hkC : codeD C [] = 0 := by
    unfold codeD
    rw [if_neg (by rw [hC]; simp), es, if_pos h2, hl, if_pos hsideC]
  rw [readA_eq C, if_pos hkC, readA_eq ss, if_pos hk0]
  refine ⟨rfl, ?_, by rw [es]⟩
  show textD C [] = textD ss []
  unfold textD
  rw [es, hl, gath_congr 32 (fun k _ h => hsect k h)]
theorem crash_right {ss : List ByteArray} {ps : List Pend} (keep : List Int) (hR : rightB ss ps = true) : rightB (crashOf ss ps keep) [] = true := by
  obtain ⟨h1, h2, h3, h4, h5⟩ := (right_iff _ _).1 hR
  have hl := crashTo_length ss ps keep ps.length
  refine (right_iff _ _).2 ⟨by unfold crashOf; omega, by unfold crashOf; omega, by simp, fun s hs => ?_, by simp⟩
  obtain ⟨j, hj⟩ := List.getElem?_of_mem hs
  rcases crash_some ss ps keep (fun p hp => ⟨(h5 p hp).1, (h5 p hp).2.1⟩) j _ s hj with h | ⟨m, -, h⟩
  · exact h4 s (List.mem_of_getElem? h)
  · exact (h5 _ (List.mem_of_getElem? h)).2.2
/-- Behind a crash in the midst of the text the sectors elsewhere are what they were. -/
theorem crash_off {ss : List ByteArray} {f n : Nat} {t : ByteArray} (keep : List Int) (hR : rightB ss (pendL f t n) = true) (j : Nat) (hj : ¬ (f ≤ j ∧ j < f + n)) : (crashOf ss (pendL f t n) keep)[j]? = ss[j]? := by
  obtain ⟨h1, h2, h3, h4, h5⟩ := (right_iff _ _).1 hR
  have hl : (crashOf ss (pendL f t n) keep).length = ss.length := crashTo_length ss _ keep _
  by_cases hjl : j < ss.length
  · have e : (crashOf ss (pendL f t n) keep)[j]? = some ((crashOf ss (pendL f t n) keep)[j]'(by omega)) := List.getElem?_eq_getElem (by omega)
    rcases crash_some ss _ keep (fun p hp => ⟨(h5 p hp).1, (h5 p hp).2.1⟩) j _ _ e with h | ⟨m, -, h⟩
    · rw [e, h]
    · exfalso
      unfold pendL at h
      rw [List.getElem?_map] at h
      have hm : m < n := by
        rcases Nat.lt_or_ge m n with q | q
        · exact q
        · rw [List.getElem?_eq_none (by simpa using q)] at h; simp at h
      rw [List.getElem?_range hm] at h
      simp only [Option.map_some, Option.some.injEq, Prod.mk.injEq] at h
      omega
  · rw [List.getElem?_eq_none (by omega), List.getElem?_eq_none (by omega)]
end Go.Proofs.YtfiabbfdnmldjaaGreatDoor.W1
