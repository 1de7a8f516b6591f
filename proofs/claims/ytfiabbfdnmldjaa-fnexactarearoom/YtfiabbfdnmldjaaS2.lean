/-
  A disk of the laws' own kind turned into one of the program's: new rows, cell by cell.
-/
import Derived.Test.YtfiabbfdnmldjaaS1
namespace Go.Proofs.Ytfiabbfdnmldjaa.S2
open Go.RowKit
open Go.Proofs.Ytfiabbfdnmldjaa.C0 Go.Proofs.Ytfiabbfdnmldjaa.S0 Go.Proofs.Ytfiabbfdnmldjaa.S1

theorem info_str : (Try.prog.info? 9).map (fun i => (i.zero, i.size, i.bytes)) = some (some (.string ⟨#[]⟩), 1, 16) := by kernel_rfl
theorem info_pend : (Try.prog.info? 45).map (fun i => (i.zero, i.size, i.bytes)) = some (some (.agg #[.int .i64 0, .string ⟨#[]⟩]), 2, 24) := by kernel_rfl

theorem ostrs_of_row {B b : Nat} {w : World} {l : List ByteArray} {f : Nat → Value} (h : w.rowIs b 9 l.length f) (hf : ∀ i s, l[i]? = some s → f i = .string s) (hB : B ≤ b) (hm : l.length ≤ maxLen) :
    OStrs B w (.slice (some ⟨b, 0, none⟩) l.length l.length) l := by
  obtain ⟨c, hb, hn, hc⟩ := h
  refine ⟨cs_length l, .inr ⟨b, l.length, c, rfl, hB, hb, Nat.le_refl _, hm, by omega, ?_⟩⟩
  apply List.ext_getElem?
  intro i
  rw [List.getElem?_take]
  by_cases hi : i < l.length
  · obtain ⟨s, hs⟩ : ∃ s, l[i]? = some s := ⟨_, List.getElem?_eq_getElem hi⟩
    rw [if_pos (by omega)]
    have := hc i hi
    rw [hf i s hs] at this
    simp [cs, hs] at this ⊢
    exact this
  · rw [if_neg (by omega), List.getElem?_eq_none (by rw [cs_length]; omega)]
theorem opends_of_row {B b : Nat} {w : World} {l : List Pend} {f : Nat → Value} (h : w.rowIs b 45 (l.length * 2) f) (hf : ∀ i s, l[i]? = some s → f (i * 2) = .int .i64 s.1 ∧ f (i * 2 + 1) = .string s.2) (hB : B ≤ b) (hm : l.length ≤ maxLen) :
    OPends B w (.slice (some ⟨b, 0, none⟩) l.length l.length) l := by
  obtain ⟨c, hb, hn, hc⟩ := h
  refine ⟨cp_length l, .inr ⟨b, l.length, c, rfl, hB, hb, Nat.le_refl _, hm, by omega, ?_⟩⟩
  apply List.ext_getElem?
  intro i
  rw [List.getElem?_take]
  by_cases hi : i < l.length * 2
  · rw [if_pos hi]
    obtain ⟨s, hs⟩ : ∃ s, l[i / 2]? = some s := ⟨_, List.getElem?_eq_getElem (by omega)⟩
    have h1 := hf _ s hs
    have h2 := cp_at l _ s hs
    have h3 := hc i hi
    rcases Nat.mod_two_eq_zero_or_one i with h | h
    · have e : i / 2 * 2 = i := by omega
      rw [e] at h1 h2
      rw [h2.1]; rw [h1.1] at h3; simpa using h3
    · have e : i / 2 * 2 + 1 = i := by omega
      rw [e] at h1 h2
      rw [h2.2]; rw [h1.2] at h3; simpa using h3
  · rw [if_neg hi, List.getElem?_eq_none (by rw [cp_length]; omega)]

def RelT (l : List ByteArray) (w0 : World) (i : Value) (wr : World) : Prop :=
  ∃ (k : Nat) (f : Nat → Value), k ≤ l.length ∧ i = .int .i64 k ∧ wr.rowIs w0.heap.size 9 l.length f ∧ (∀ j s, j < k → l[j]? = some s → f j = .string s) ∧ Below w0.heap.size w0 wr
theorem RelT.step {l : List ByteArray} {w0 wr : World} {k : Nat} {f : Nat → Value} {s : ByteArray} (hk : k < l.length) (hs : l[k]? = some s) (hrow : wr.rowIs w0.heap.size 9 l.length f) (hf : ∀ j s, j < k → l[j]? = some s → f j = .string s) (hb : Below w0.heap.size w0 wr) :
    RelT l w0 (.int .i64 ((k : Int) + 1)) (wr.setCell ⟨w0.heap.size, k, none⟩ (.string s)) := by
  refine ⟨k + 1, _, by omega, by simp, hrow.set _ _, fun j t hj ht => ?_, hb.setCell (Nat.le_refl _) _⟩
  show (if j = k then _ else f j) = _
  by_cases e : j = k
  · subst e; rw [if_pos rfl]; rw [hs] at ht; cases ht; rfl
  · rw [if_neg e]; exact hf j t (by omega) ht
set_option maxRecDepth 100000 in
set_option maxHeartbeats 800000 in
theorem toStrs_any (v : Value) (l : List ByteArray) (w : World) (hv : Strs w v l) (hz : l.length ≤ 1048576) :
    Calls Try.prog 13 #[v] w fun e w' => ∃ a cap, e = .returned (.slice a l.length cap) ∧ OStrs w.heap.size w' (.slice a l.length cap) l ∧ Below w.heap.size w w' := by
  obtain ⟨a, cap, rfl, hl, hc⟩ := hv
  have hmk := run_make_row' (P := Try.prog) 22 9 (.string ⟨#[]⟩) 16 Try.underlying22 info_str rfl .i64 .i64 l.length (by omega) (by omega)
  have hrow0 : (w.alloc (.cells (madeCells #[Value.string ⟨#[]⟩] l.length) 9)).rowIs w.heap.size 9 l.length (fun _ => .string ⟨#[]⟩) :=
    ⟨_, Go.Deep.blk_alloc_new _ _, by rw [size_madeCells], fun i hi => by simp [madeCells, hi, Nat.mod_one]⟩
  have H0 : Hid (RelT l w (.int .i64 0) (w.alloc (.cells (madeCells #[Value.string ⟨#[]⟩] l.length) 9))) := ⟨0, _, Nat.zero_le _, rfl, hrow0, fun j s h => by omega, (Below.refl _ _).alloc (Nat.le_refl _) _⟩
  clear hrow0
  go_enter Try.func13, Try.ntmps13
  go_wp2
  clear hmk
  go_loopw [4] (fun i wr => RelT l w i wr) (fun i _ => l.length - (intOf i).toNat)
  case atStart => exact H0.out
  case round =>
    clear H0
    obtain ⟨k, f, hk, rfl, hrow, hf, hbel⟩ := hrel
    by_cases hlt : k < l.length
    · obtain ⟨b, off, rfl, hbb, hcc⟩ := hc (by omega)
      obtain ⟨s, hs⟩ : ∃ s, l[k]? = some s := ⟨_, List.getElem?_eq_getElem hlt⟩
      have c0 := hcc k s hs
      rw [← hbel.cell (p := ⟨b, off + k, none⟩) hbb] at c0
      have HN : Hid (RelT l w (.int .i64 ((k : Int) + 1)) (wr.setCell ⟨w.heap.size, k, none⟩ (.string s))) := RelT.step hlt hs hrow hf hbel
      obtain ⟨o, ho⟩ : ∃ o, wr.cell? ⟨w.heap.size, k, none⟩ = some o := ⟨_, hrow.cell hlt⟩
      have hfr := hrow.frozen k
      clear hs hcc hrow hf hbel
      go_wp2
      go_roundw
      case rel => exact HN.out
      case measure => simp [intOf]; omega
    · have hkl : k = l.length := by omega
      have HF : Hid (OStrs w.heap.size wr (.slice (some ⟨w.heap.size, 0, none⟩) l.length l.length) l) := ostrs_of_row hrow (fun i s hs => hf i s (by rw [hkl]; exact (List.getElem?_eq_some_iff.1 hs).1) hs) (Nat.le_refl _) (by unfold maxLen; omega)
      have HB : Hid (Below w.heap.size w wr) := hbel
      clear hrow hf hbel hkl
      go_wp2
      go_ret
      exact ⟨_, _, rfl, HF.out, HB.out⟩

set_option maxRecDepth 100000 in
theorem toPend_any (at_ : Int) (s : ByteArray) (w : World) :
    Calls Try.prog 21 #[.agg #[.int .i64 at_, .string s]] w fun e w' => e = .returned (.agg #[.int .i64 at_, .string s]) ∧ Below w.heap.size w w' := by
  go_enter Try.func21, Try.ntmps21
  go_wp2
  refine bodyPost_ret (v := .agg #[.int .i64 at_, .string s]) (by simp [results, Try.results21, go_sem]) rfl ⟨rfl, ?_⟩
  exact (((Below.refl _ _).alloc (Nat.le_refl _) _).alloc (by simp) _).alloc (by simp; omega) _

theorem run_make_row2 {P : Program} (t e : TypeId) (z : Value) (bytes : Nat) (ht : P.underlying t = some (.slice e)) (hinfo : (P.info? e).map (fun i => (i.zero, i.size, i.bytes)) = some (some z, 2, bytes))
    (kl kc : IntKind) (n : Nat) (hbytes : bytes * n ≤ 281474976710656) (h63 : n ≤ 9223372036854775807) (w : World) :
    (Instr.makeSlice t (.int kl (n : Int)) (.int kc (n : Int))).run P w = .ok (.slice (some ⟨w.heap.size, 0, none⟩) n n) (w.alloc (.cells (madeCells z.cells (n * 2)) e)) := by
  obtain ⟨i, hi, hzz⟩ := Option.map_eq_some_iff.1 hinfo
  simp only [Prod.mk.injEq] at hzz
  obtain ⟨hz, hs, hb⟩ := hzz
  have hb' : (i.bytes : Int) * (n : Int) ≤ 281474976710656 := by
    rw [hb]
    have h : ((bytes * n : Nat) : Int) ≤ 281474976710656 := by omega
    rwa [Int.natCast_mul] at h
  have hr := run_make (P := P) w t e i z ht hi hz kl kc n n (by omega) (Int.le_refl _) hb' (by omega)
  simp only [Int.toNat_natCast, hs] at hr
  exact hr
def RelU (l : List Pend) (w0 : World) (i : Value) (wr : World) : Prop :=
  ∃ (k : Nat) (f : Nat → Value), k ≤ l.length ∧ i = .int .i64 k ∧ wr.rowIs w0.heap.size 45 (l.length * 2) f ∧ (∀ j s, j < k → l[j]? = some s → f (j * 2) = .int .i64 s.1 ∧ f (j * 2 + 1) = .string s.2) ∧ Below w0.heap.size w0 wr
theorem RelU.step {l : List Pend} {w0 wr w1 : World} {k : Nat} {f : Nat → Value} {s : Pend} (hk : k < l.length) (hs : l[k]? = some s) (hrow : wr.rowIs w0.heap.size 45 (l.length * 2) f) (hf : ∀ j s, j < k → l[j]? = some s → f (j * 2) = .int .i64 s.1 ∧ f (j * 2 + 1) = .string s.2) (hb : Below w0.heap.size w0 wr) (h1 : Below wr.heap.size wr w1) :
    RelU l w0 (.int .i64 ((k : Int) + 1)) ((w1.setCell ⟨w0.heap.size, k * 2, none⟩ (.int .i64 s.1)).setCell ⟨w0.heap.size, k * 2 + 1, none⟩ (.string s.2)) := by
  have hlt := hrow.lt
  have hrow1 : w1.rowIs w0.heap.size 45 (l.length * 2) f := hrow.of_block (h1.block _ hlt)
  refine ⟨k + 1, _, by omega, by simp, (hrow1.set _ _).set _ _, fun j t hj ht => ?_, ((hb.trans (h1.mono hb.size)).setCell (Nat.le_refl _) _).setCell (Nat.le_refl _) _⟩
  show (if j * 2 = k * 2 + 1 then _ else if j * 2 = k * 2 then _ else f (j * 2)) = _ ∧ (if j * 2 + 1 = k * 2 + 1 then _ else if j * 2 + 1 = k * 2 then _ else f (j * 2 + 1)) = _
  by_cases e : j = k
  · subst e
    rw [hs] at ht; cases ht
    rw [if_neg (by omega), if_pos rfl, if_pos rfl]
    exact ⟨rfl, rfl⟩
  · rw [if_neg (by omega), if_neg (by omega), if_neg (by omega), if_neg (by omega)]
    exact hf j t (by omega) ht
set_option maxRecDepth 100000 in
set_option maxHeartbeats 800000 in
theorem toPends_any (v : Value) (l : List Pend) (w : World) (hv : Pends w v l) (hz : l.length ≤ 1048576) :
    Calls Try.prog 14 #[v] w fun e w' => ∃ a cap, e = .returned (.slice a l.length cap) ∧ OPends w.heap.size w' (.slice a l.length cap) l ∧ Below w.heap.size w w' := by
  obtain ⟨a, cap, rfl, hl, hc⟩ := hv
  have hmk := run_make_row2 (P := Try.prog) 28 45 (.agg #[.int .i64 0, .string ⟨#[]⟩]) 24 Try.underlying28 info_pend .i64 .i64 l.length (by omega) (by omega)
  obtain ⟨M, hM⟩ : ∃ M, madeCells (Value.agg #[.int .i64 0, .string ⟨#[]⟩]).cells (l.length * 2) = M := ⟨_, rfl⟩
  have hMs : M.size = l.length * 2 := by rw [← hM, size_madeCells]
  rw [hM] at hmk
  clear hM
  have hrow0 : (w.alloc (.cells M 45)).rowIs w.heap.size 45 (l.length * 2) (fun i => M.getD i (.int .i64 0)) :=
    ⟨_, Go.Deep.blk_alloc_new _ _, hMs, fun i hi => by simp [hMs, hi]⟩
  have H0 : Hid (RelU l w (.int .i64 0) (w.alloc (.cells M 45))) := ⟨0, _, Nat.zero_le _, rfl, hrow0, fun j s h => by omega, (Below.refl _ _).alloc (Nat.le_refl _) _⟩
  clear hrow0 hMs
  go_enter Try.func14, Try.ntmps14
  go_wp2
  clear hmk
  go_loopw [4] (fun i wr => RelU l w i wr) (fun i _ => l.length - (intOf i).toNat)
  case atStart => exact H0.out
  case round =>
    clear H0
    obtain ⟨k, f, hk, rfl, hrow, hf, hbel⟩ := hrel
    by_cases hlt : k < l.length
    · obtain ⟨b, off, rfl, hbb, hcc⟩ := hc (by omega)
      obtain ⟨s, hs⟩ : ∃ s, l[k]? = some s := ⟨_, List.getElem?_eq_getElem hlt⟩
      obtain ⟨c0, c1⟩ := hcc k s hs
      rw [← hbel.cell (p := ⟨b, off + k * 2, none⟩) hbb] at c0
      rw [← hbel.cell (p := ⟨b, off + k * 2 + 1, none⟩) hbb] at c1
      have HN : Hid (∀ w1, Below wr.heap.size wr w1 → RelU l w (.int .i64 ((k : Int) + 1)) ((w1.setCell ⟨w.heap.size, k * 2, none⟩ (.int .i64 s.1)).setCell ⟨w.heap.size, k * 2 + 1, none⟩ (.string s.2))) := fun w1 h1 => RelU.step hlt hs hrow hf hbel h1
      have HO : Hid (∀ w1, Below wr.heap.size wr w1 → (∃ o, w1.cell? ⟨w.heap.size, k * 2, none⟩ = some o) ∧ (∃ o, w1.cell? ⟨w.heap.size, k * 2 + 1, none⟩ = some o) ∧ w1.frozen? ⟨w.heap.size, k * 2, none⟩ = false ∧ w1.frozen? ⟨w.heap.size, k * 2 + 1, none⟩ = false) := fun w1 h1 => by
        have hr1 := hrow.of_block (h1.block _ hrow.lt)
        exact ⟨⟨_, hr1.cell (by omega)⟩, ⟨_, hr1.cell (by omega)⟩, hr1.frozen _, hr1.frozen _⟩
      clear hs hcc hrow hf hbel
      go_wp2_with (first | (go_at_call 21; refine (toPend_any _ _ _).mono ?_; rintro e w1 ⟨rfl, hb1⟩; obtain ⟨⟨o0, ho0⟩, ⟨o1, ho1⟩, hf0, hf1⟩ := HO.out w1 hb1))
      go_roundw
      case rel => exact HN.out w1 hb1
      case measure => simp [intOf]; omega
    · have hkl : k = l.length := by omega
      have HF : Hid (OPends w.heap.size wr (.slice (some ⟨w.heap.size, 0, none⟩) l.length l.length) l) := opends_of_row hrow (fun i s hs => hf i s (by rw [hkl]; exact (List.getElem?_eq_some_iff.1 hs).1) hs) (Nat.le_refl _) (by unfold maxLen; omega)
      have HB : Hid (Below w.heap.size w wr) := hbel
      clear hrow hf hbel hkl
      go_wp2
      go_ret
      exact ⟨_, _, rfl, HF.out, HB.out⟩

set_option maxRecDepth 100000 in
set_option maxHeartbeats 800000 in
theorem toDisk_any (vs vp : Value) (ss : List ByteArray) (ps : List Pend) (w : World) (hs : Strs w vs ss) (hp : Pends w vp ps) (hz : ss.length ≤ 1048576) (hzp : ps.length ≤ 1048576) :
    Calls Try.prog 6 #[.agg #[vs, vp]] w fun e w' => ∃ a c a' c', e = .returned (.agg #[.slice a ss.length c, .slice a' ps.length c']) ∧ ODisk w.heap.size w' (.slice a ss.length c) (.slice a' ps.length c') ss ps ∧ Below w.heap.size w w' := by
  have hal : ∀ o1 o2 o3 : Obj, Below w.heap.size w (((w.alloc o1).alloc o2).alloc o3) := fun o1 o2 o3 => (((Below.refl _ _).alloc (Nat.le_refl _) _).alloc (by simp) _).alloc (by simp; omega) _
  go_enter Try.func6, Try.ntmps6
  go_wp2_with (first
    | (go_at_call 13; refine (toStrs_any _ ss _ (hs.below (hal _ _ _)) hz).mono ?_; rintro e w1 ⟨a, c, rfl, hus, hb1⟩; obtain ⟨hc1, hf1⟩ := bcell hb1; have hz1 : w.heap.size + 1 + 1 < w1.heap.size := (by have := hb1.size; simp at this; omega); have hz1b : w.heap.size + 1 < w1.heap.size := (by omega); have hz1a : w.heap.size < w1.heap.size := (by omega); have hB1 : Below w.heap.size w w1 := (hal _ _ _).trans (hb1.mono (hal _ _ _).size))
    | (go_at_call 14; refine (toPends_any _ ps _ (hp.below (hB1.setCell (by show w.heap.size ≤ w.heap.size + 1 + 1; omega) _)) hzp).mono ?_; rintro e w2 ⟨a', c', rfl, hup, hb2⟩; obtain ⟨hc2, hf2⟩ := bcell hb2))
  refine bodyPost_ret (v := .agg #[.slice a ss.length c, .slice a' ps.length c']) (by simp [results, Try.results6, go_sem, hc2, hc1, hz1b]) rfl ⟨a, c, a', c', rfl, ?_, ?_⟩
  · have e3 : (((w.alloc (Obj.cells #[vs, vp] 25)).alloc (Obj.cells #[Value.slice none 0 0, Value.slice none 0 0] 30)).alloc (Obj.cells #[Value.slice none 0 0, Value.slice none 0 0] 30)).heap.size = w.heap.size + 3 := by simp
    rw [e3] at hus
    have hz2 : w1.heap.size ≤ w2.heap.size := by have := hb2.size; simpa using this
    have h1 := (hus.set (p := ⟨w.heap.size + 1 + 1, 0, none⟩) (by show w.heap.size + 1 + 1 < _; omega) (.slice a ss.length c)).below hb2
    have h2 := hup.mono (B' := w.heap.size + 3) (by simp; omega)
    exact ⟨(((h1.set (by show w.heap.size + 1 + 1 < _; omega) _).set (by show w.heap.size + 1 < _; omega) _).set (by show w.heap.size + 1 < _; omega) _).mono (by omega),
      (((h2.set (by show w.heap.size + 1 + 1 < _; omega) _).set (by show w.heap.size + 1 < _; omega) _).set (by show w.heap.size + 1 < _; omega) _).mono (by omega)⟩
  · have h3 : Below w.heap.size w w2 := (hB1.setCell (by show w.heap.size ≤ w.heap.size + 1 + 1; omega) _).trans (hb2.mono (by simp; omega))
    exact ((h3.setCell (by show w.heap.size ≤ w.heap.size + 1 + 1; omega) _).setCell (by show w.heap.size ≤ w.heap.size + 1; omega) _).setCell (by show w.heap.size ≤ w.heap.size + 1; omega) _
end Go.Proofs.Ytfiabbfdnmldjaa.S2
