/-
  The program's steps of a put: a list of function values of the call's own.
-/
import Derived.Test.YtfiabbfdnmldjaaGreatDoorW0
import Derived.Test.YtfiabbfdnmldjaaGreatDoorV5
import Derived.Test.YtfiabbfdnmldjaaGreatDoorU3
import Derived.Test.YtfiabbfdnmldjaaGreatDoorPL
namespace Go.Proofs.YtfiabbfdnmldjaaGreatDoor.X0
open Go.RowKit Go.IntWalk
open Go.Proofs.YtfiabbfdnmldjaaGreatDoor.C0 Go.Proofs.YtfiabbfdnmldjaaGreatDoor.C2 Go.Proofs.YtfiabbfdnmldjaaGreatDoor.S0 Go.Proofs.YtfiabbfdnmldjaaGreatDoor.S1 Go.Proofs.YtfiabbfdnmldjaaGreatDoor.S2 Go.Proofs.YtfiabbfdnmldjaaGreatDoor.S3 Go.Proofs.YtfiabbfdnmldjaaGreatDoor.O1 Go.Proofs.YtfiabbfdnmldjaaGreatDoor.T5 Go.Proofs.YtfiabbfdnmldjaaGreatDoor.U0 Go.Proofs.YtfiabbfdnmldjaaGreatDoor.U1 Go.Proofs.YtfiabbfdnmldjaaGreatDoor.U2 Go.Proofs.YtfiabbfdnmldjaaGreatDoor.U3 Go.Proofs.YtfiabbfdnmldjaaGreatDoor.U4 Go.Proofs.YtfiabbfdnmldjaaGreatDoor.U8 Go.Proofs.YtfiabbfdnmldjaaGreatDoor.V0 Go.Proofs.YtfiabbfdnmldjaaGreatDoor.V5 Go.Proofs.YtfiabbfdnmldjaaGreatDoor.W0
open Go.Proofs.YtfiabbfdnmldjaaGreatDoor.Dk (St)
theorem info_step : (Tryz.prog.info? 114).map (fun i => (i.zero, i.size, i.bytes)) = some (some .nilFunc, 1, 8) := by kernel_rfl
/-- Steps that lie in a row of the call's own. -/
def OSt (B : Nat) (w : World) (v : Value) (l : List St) : Prop :=
  ∃ fs : List Value, fs.length = l.length ∧ w.ownsRow B 114 1 v l.length fs ∧ ∀ (i : Nat) (s : St), l[i]? = some s → ∃ f, fs[i]? = some f ∧ StepIs w f s
theorem OSt.below {B : Nat} {w w' : World} {v : Value} {l : List St} (h : OSt B w v l) (hb : Below w.heap.size w w') : OSt B w' v l := by
  obtain ⟨fs, h1, h2, h3⟩ := h
  refine ⟨fs, h1, own_keep h2 fun g hg => hb.block g (h2.lt g hg).2, fun i s hs => ?_⟩
  obtain ⟨f, h4, h5⟩ := h3 i s hs
  exact ⟨f, h4, h5.below hb⟩
theorem OSt.mono {B B' : Nat} {w : World} {v : Value} {l : List St} (h : OSt B w v l) (hB : B' ≤ B) : OSt B' w v l := by
  obtain ⟨fs, h1, h2, h3⟩ := h
  refine ⟨fs, h1, ⟨h2.1, ?_⟩, h3⟩
  rcases h2.2 with hn | ⟨g, cap, cur, e, hb, rest⟩
  · exact .inl hn
  · exact .inr ⟨g, cap, cur, e, Nat.le_trans hB hb, rest⟩
theorem OSt.nil (B : Nat) (w : World) : OSt B w (.slice none 0 0) [] := ⟨[], rfl, World.ownsRow_nil _ _ _ _, fun i s h => by simp at h⟩
theorem step_keep {w w' : World} {v : Value} {s : St} (h : StepIs w v s) (hk : ∀ (b : Nat) (x : Value) (T : TypeId), (T = 2 ∨ T = 9) → w.heap[b]? = some (Obj.cells #[x] T) → w'.heap[b]? = some (Obj.cells #[x] T)) : StepIs w' v s := by
  match s, h with
  | none, h => exact h
  | some (i, d), h =>
    obtain ⟨b, c, e, h1, h2⟩ := h
    exact ⟨b, c, e, hk b _ _ (.inl rfl) h1, hk c _ _ (.inr rfl) h2⟩
theorem own_type {B e sz n g : Nat} {w : World} {v : Value} {xs : List Value} (h : w.ownsRow B e sz v n xs) (hg : v.ownBlock = some g) : ∃ cs fr, w.heap[g]? = some (.cells cs e fr) := by
  rcases h.2 with ⟨rfl, _⟩ | ⟨g', cap, cur, rfl, _, hh, _⟩
  · simp [Value.ownBlock] at hg
  · simp [Value.ownBlock] at hg
    subst hg
    exact ⟨_, _, hh⟩
/-- Steps more. -/
theorem OSt.more {B : Nat} {w w' : World} {v : Value} {l m : List St} {fs news : List Value} {g cap k : Nat} (h1 : fs.length = l.length) (h2 : w.ownsRow B 114 1 v l.length fs) (h3 : ∀ (i : Nat) (s : St), l[i]? = some s → ∃ f, fs[i]? = some f ∧ StepIs w f s)
    (hm : m.length = k) (hs : ∀ (i : Nat) (s : St), m[i]? = some s → ∃ f, news[i]? = some f ∧ StepIs w f s) (hn : news.length = k)
    (hown : w'.ownsRow B 114 1 (.slice (some ⟨g, 0, none⟩) (l.length + k) cap) (l.length + k) (fs ++ news)) (hg : w.grownBy w' v.ownBlock) :
    OSt B w' (.slice (some ⟨g, 0, none⟩) (l.length + k) cap) (l ++ m) := by
  have hgr : ∀ f s, StepIs w f s → StepIs w' f s := fun f s hst => step_keep hst (fun b x T hT hb => by
    rw [hg.block b (lt_some hb) (fun e => ?_)]
    · exact hb
    · obtain ⟨cs, fr, hh⟩ := own_type h2 e.symm
      rw [hh] at hb
      cases hb
      revert hT
      decide)
  have hl : (l ++ m).length = l.length + k := by rw [List.length_append, hm]
  refine ⟨fs ++ news, by rw [List.length_append, hl, h1, hn], by rw [hl]; exact hown, fun i s hi => ?_⟩
  by_cases hil : i < l.length
  · rw [List.getElem?_append_left hil] at hi
    obtain ⟨f, h4, h5⟩ := h3 i s hi
    exact ⟨f, by rw [List.getElem?_append_left (by omega)]; exact h4, hgr f s h5⟩
  · rw [List.getElem?_append_right (by omega)] at hi
    obtain ⟨f, h4, h5⟩ := hs (i - l.length) s hi
    exact ⟨f, by rw [List.getElem?_append_right (by omega), h1]; exact h4, hgr f s h5⟩
/-- The text that is still to be put. -/
def restT (t : ByteArray) (i : Nat) : ByteArray := ⟨(t.data.toList.drop (64 * i)).toArray⟩
theorem rest_size (t : ByteArray) (i : Nat) : (restT t i).size = t.size - 64 * i := by
  unfold restT; rw [C6.size_mk, List.length_drop, size_list]
theorem rest_zero (t : ByteArray) : restT t 0 = t := by
  apply ba_ext; simp [restT]
theorem rest_head (t : ByteArray) (i n : Nat) (h : n = min 64 (t.size - 64 * i)) : (restT t i).extract 0 n = chunk t i := by
  apply ba_ext
  rw [ext_list, chunk_list]
  show (t.data.toList.drop (64 * i)).take n = _
  have e : n = min 64 (t.data.toList.drop (64 * i)).length := by rw [List.length_drop, size_list]; exact h
  rw [e, ← List.take_eq_take_min]
theorem rest_tail (t : ByteArray) (i n : Nat) (h : n = min 64 (t.size - 64 * i)) : (restT t i).extract n (restT t i).size = restT t (i + 1) := by
  apply ba_ext
  rw [Lib.extract_data]
  show ((t.data.toList.drop (64 * i)).drop n).take _ = t.data.toList.drop (64 * (i + 1))
  rw [List.drop_drop, List.take_of_length_le (by rw [List.length_drop, size_list, rest_size]; omega)]
  rcases Nat.lt_or_ge (t.size - 64 * i) 64 with h' | h'
  · rw [List.drop_of_length_le (by rw [size_list]; omega), List.drop_of_length_le (by rw [size_list]; omega)]
  · congr 1
    omega
def lenV : Value → Nat
  | .string s => s.size
  | _ => 0
def RelP (W : World) (f : Nat) (t : ByteArray) (x y z : Value) (wr : World) : Prop :=
  ∃ (i : Nat) (a : Option Addr) (c : Nat), 64 * i ≤ t.size + 63 ∧ x = .string (restT t i) ∧ y = .slice a (wrL f t i).length c ∧ z = .int .i64 ((f + i : Nat) : Int) ∧ OSt W.heap.size wr y (wrL f t i) ∧ Below W.heap.size W wr
theorem lt_size {s : ByteArray} : (s.toList == (ByteArray.toList ⟨#[]⟩)) = decide (s.size = 0) := by
  rw [ByteArray.toList_eq, ByteArray.toList_eq]
  by_cases h : s.size = 0
  · rw [decide_eq_true h, beq_iff_eq]
    apply List.eq_nil_of_length_eq_zero
    rw [size_list]
    exact h
  · rw [decide_eq_false h, beq_eq_false_iff_ne]
    intro e
    apply h
    rw [← size_list, e]
    rfl
theorem joined_one (s : ByteArray) (w : World) (hs : s.size ≤ 1000) : Calls Tryz.prog 96 #[.slice (some ⟨w.heap.size, 0, none⟩) 1 1] (w.alloc (.cells #[.string s] 9)) fun e w' => e = .returned (.string s) ∧ Below w.heap.size w w' := by
  refine (joined_any w.heap.size 0 1 1 [s] (w.alloc (.cells #[.string s] 9)) rfl (by simp) (by omega) (by simp [total]; omega) (fun j hj => ?_)).mono (fun e w' ⟨h1, h2⟩ => ⟨by rw [h1, C7.cat_one], bel2 (albel _ _) h2⟩)
  obtain rfl : j = 0 := by omega
  exact (cell_of_one (heap_alloc_new w _))
set_option maxRecDepth 100000 in
set_option maxHeartbeats 1600000 in
theorem putSteps_any (g : Int) (s : Nat) (t : ByteArray) (sa : Option Addr) (n sc : Nat) (vp : Value) (w : World) (n1 : 1 ≤ n) (n2 : n ≤ 64) (hs : s ≤ 1) (hg : ok64 g) (ht : t.size ≤ 8000) :
    Calls Tryz.prog 77 #[.agg #[.slice sa n sc, vp], .agg #[.int .i64 g, .int .i64 (s : Nat), .int .i64 (t.size : Nat)], .string t] w fun e w' => (∃ g' c', e = .returned (.slice (some ⟨g', 0, none⟩) (secN t + 3) c') ∧ OSt w.heap.size w' (.slice (some ⟨g', 0, none⟩) (secN t + 3) c') (putL (firstN n s) t (headB g s t.size))) ∧ Below w.heap.size w w' := by
  obtain ⟨k0, k1, b0, z0⟩ := T5.k_box w (.cells #[.slice sa n sc, vp] 26) (.cells #[.int .i64 g, .int .i64 (s : Nat), .int .i64 (t.size : Nat)] 57)
  have hst : ∀ W, Calls Tryz.prog 100 #[.agg #[.slice sa n sc, vp], .int .i64 (s : Nat)] W fun e w' => e = .returned (.int .i64 (firstN n s : Nat)) ∧ Below W.heap.size W w' := fun W => start_impl sa n sc s vp W n1 n2 hs
  have hf : firstN n s ≤ 64 := by
    unfold firstN halfN
    rcases (show s = 0 ∨ s = 1 by omega) with rfl | rfl <;> omega
  generalize firstN n s = f at *
  go_enter Tryz.func77, Tryz.ntmps77
  go_wp2_with fail
  refine (hst _).mono ?_
  rintro e w1 ⟨rfl, hb1⟩
  have B1 := bel2 b0 hb1
  have k11 := carry k1 hb1
  clear k0 k1 hb1 b0 hst
  have H0 : Hid (RelP w1 f t (.string t) (.slice none 0 0) (.int .i64 (f : Nat)) w1) := ⟨0, none, 0, by omega, by rw [rest_zero], rfl, rfl, OSt.nil _ _, Below.refl _ _⟩
  go_wp2_with fail
  go_loopw [2, 7, 8] (fun x y z wr => RelP w1 f t x y z wr) (fun x _ _ _ => lenV x)
  case atStart => exact H0.out
  case round =>
    clear H0
    obtain ⟨i, a, c, hi, rfl, rfl, rfl, hown, hbel⟩ := hrel
    have B2 := bel2 B1 hbel
    have hrs := rest_size t i
    by_cases hlt : 64 * i < t.size
    · have hne : ((restT t i).toList == (ByteArray.toList ⟨#[]⟩)) = false := by rw [lt_size]; exact decide_eq_false (by omega)
      have hie : (restT t i).toList.isEmpty = false := by rw [← hne]; simp [ByteArray.toList_eq]
      by_cases h64 : t.size - 64 * i ≤ 64
      · have h64' : ((t.size - 64 * i : Nat) : Int) ≤ 64 := by omega
        have HEM : Hid (restT t (i + 1) = ByteArray.empty) := ba_ext (by apply List.eq_nil_of_length_eq_zero; rw [size_list, rest_size]; omega)
        have hhead : (restT t i).extract 0 (t.size - 64 * i) = chunk t i := rest_head t i _ (by omega)
        have htail : (restT t i).extract (t.size - 64 * i) (t.size - 64 * i) = restT t (i + 1) := by have := rest_tail t i ((t.size - 64 * i)) (by omega); rwa [rest_size] at this
        have hcs := chunk_size t i
        go_wp2_with fail
        refine (joined_one _ _ (by omega)).mono ?_
        rintro e w3 ⟨rfl, hb3⟩
        go_wp2_with fail
        refine (writing_any _ _ _).mono ?_
        rintro e w4 ⟨⟨v, rfl, hst, -⟩, hb4⟩
        obtain ⟨gb, gc, rfl, kb, kc⟩ := hst
        have hb5 := bel2 hb3 hb4
        have bel4 := bel2 hbel hb5
        have hst5 : StepIs (w4.alloc (.cells #[.func (.func 104) #[] #[.pointer (some ⟨gb, 0, none⟩), .pointer (some ⟨gc, 0, none⟩)]] 114)) (.func (.func 104) #[] #[.pointer (some ⟨gb, 0, none⟩), .pointer (some ⟨gc, 0, none⟩)]) (.write ((f : Int) + (i : Int)) (chunk t i)) := ⟨gb, gc, rfl, carryA kb _, carryA kc _⟩
        obtain ⟨fs, h1, h2, h3⟩ := (hown.below hb5).below (albel w4 (.cells #[.func (.func 104) #[] #[.pointer (some ⟨gb, 0, none⟩), .pointer (some ⟨gc, 0, none⟩)]] 114))
        have HE : Hid ((w4.alloc (.cells #[.func (.func 104) #[] #[.pointer (some ⟨gb, 0, none⟩), .pointer (some ⟨gc, 0, none⟩)]] 114)).heap[w4.heap.size]? = some (.cells #[.func (.func 104) #[] #[.pointer (some ⟨gb, 0, none⟩), .pointer (some ⟨gc, 0, none⟩)]] 114)) := heap_alloc_new w4 _
        have hzw : Hid (w1.heap.size ≤ w4.heap.size) := bel4.size
        have hwl : (wrL f t i).length ≤ 126 := by rw [wrL_length]; omega
        obtain ⟨j0, hj, hy0, hy1, hy2⟩ := info_parts info_step
        clear hb3 hb4
        go_wp2_with (first
          | (at_builtin; go_loud (refine wpList_append_lies _ rfl _ _ 111 rfl w1.heap.size 114 j0 .nilFunc 1 8 Tryz.underlying111 hj hy0 hy1 hy2 rfl (by decide) _ (wrL f t i).length fs rfl h2 ⟨w4.heap.size, 0, none⟩ 1 1 [.func (.func 104) #[] #[.pointer (some ⟨gb, 0, none⟩), .pointer (some ⟨gc, 0, none⟩)]] rfl rfl (World.news_of_block HE.out) (by intro u hu; simp at hu; subst hu; rfl) (by decide) (by unfold maxLen; omega) (by omega) (by simp; have := hzw.out; omega) _ rfl ?_); intro g5 cap5 w5 hown7 hg7 hat7 hlt7))
        have HR : ∀ z : Int, z = ((f + (i + 1) : Nat) : Int) → Hid (RelP w1 f t (.string ByteArray.empty) (.slice (some ⟨g5, 0, none⟩) ((wrL f t i).length + 1) cap5) (.int .i64 z) w5) := by
          rintro z rfl
          rw [← HEM.out]
          refine ⟨i + 1, some ⟨g5, 0, none⟩, cap5, by omega, rfl, by rw [wrL_length, wrL_length], rfl, ?_, (bel4.trans ((albel w4 _).mono bel4.size)).grown hg7 (Nat.le_trans bel4.size (albel w4 _).size) (fun q hq => (h2.lt q hq).1)⟩
          rw [wrL_succ]
          exact OSt.more (k := 1) h1 h2 h3 rfl (fun j s hjs => by
            obtain rfl : j = 0 := by
              rcases j with _ | j
              · rfl
              · simp at hjs
            simp at hjs
            subst hjs
            exact ⟨_, rfl, hst5⟩) rfl hown7 hg7
        have HM : Hid (lenV (.string ByteArray.empty) < lenV (.string (restT t i))) := by
          rw [← HEM.out]
          show (restT t (i + 1)).size < (restT t i).size
          rw [rest_size, rest_size]
          omega
        go_roundw
        case rel => exact (HR _ (by omega)).out
        case measure => exact HM.out
      · have h64' : ¬ ((t.size - 64 * i : Nat) : Int) ≤ 64 := by omega
        have hhead : (restT t i).extract 0 (64) = chunk t i := rest_head t i _ (by omega)
        have htail : (restT t i).extract (64) (t.size - 64 * i) = restT t (i + 1) := by have := rest_tail t i ((64)) (by omega); rwa [rest_size] at this
        have hcs := chunk_size t i
        go_wp2_with fail
        refine (joined_one _ _ (by omega)).mono ?_
        rintro e w3 ⟨rfl, hb3⟩
        go_wp2_with fail
        refine (writing_any _ _ _).mono ?_
        rintro e w4 ⟨⟨v, rfl, hst, -⟩, hb4⟩
        obtain ⟨gb, gc, rfl, kb, kc⟩ := hst
        have hb5 := bel2 hb3 hb4
        have bel4 := bel2 hbel hb5
        have hst5 : StepIs (w4.alloc (.cells #[.func (.func 104) #[] #[.pointer (some ⟨gb, 0, none⟩), .pointer (some ⟨gc, 0, none⟩)]] 114)) (.func (.func 104) #[] #[.pointer (some ⟨gb, 0, none⟩), .pointer (some ⟨gc, 0, none⟩)]) (.write ((f : Int) + (i : Int)) (chunk t i)) := ⟨gb, gc, rfl, carryA kb _, carryA kc _⟩
        obtain ⟨fs, h1, h2, h3⟩ := (hown.below hb5).below (albel w4 (.cells #[.func (.func 104) #[] #[.pointer (some ⟨gb, 0, none⟩), .pointer (some ⟨gc, 0, none⟩)]] 114))
        have HE : Hid ((w4.alloc (.cells #[.func (.func 104) #[] #[.pointer (some ⟨gb, 0, none⟩), .pointer (some ⟨gc, 0, none⟩)]] 114)).heap[w4.heap.size]? = some (.cells #[.func (.func 104) #[] #[.pointer (some ⟨gb, 0, none⟩), .pointer (some ⟨gc, 0, none⟩)]] 114)) := heap_alloc_new w4 _
        have hzw : Hid (w1.heap.size ≤ w4.heap.size) := bel4.size
        have hwl : (wrL f t i).length ≤ 126 := by rw [wrL_length]; omega
        obtain ⟨j0, hj, hy0, hy1, hy2⟩ := info_parts info_step
        clear hb3 hb4
        go_wp2_with (first
          | (at_builtin; go_loud (refine wpList_append_lies _ rfl _ _ 111 rfl w1.heap.size 114 j0 .nilFunc 1 8 Tryz.underlying111 hj hy0 hy1 hy2 rfl (by decide) _ (wrL f t i).length fs rfl h2 ⟨w4.heap.size, 0, none⟩ 1 1 [.func (.func 104) #[] #[.pointer (some ⟨gb, 0, none⟩), .pointer (some ⟨gc, 0, none⟩)]] rfl rfl (World.news_of_block HE.out) (by intro u hu; simp at hu; subst hu; rfl) (by decide) (by unfold maxLen; omega) (by omega) (by simp; have := hzw.out; omega) _ rfl ?_); intro g5 cap5 w5 hown7 hg7 hat7 hlt7))
        have HR : ∀ z : Int, z = ((f + (i + 1) : Nat) : Int) → Hid (RelP w1 f t (.string (restT t (i + 1))) (.slice (some ⟨g5, 0, none⟩) ((wrL f t i).length + 1) cap5) (.int .i64 z) w5) := by
          rintro z rfl
          refine ⟨i + 1, some ⟨g5, 0, none⟩, cap5, by omega, rfl, by rw [wrL_length, wrL_length], rfl, ?_, (bel4.trans ((albel w4 _).mono bel4.size)).grown hg7 (Nat.le_trans bel4.size (albel w4 _).size) (fun q hq => (h2.lt q hq).1)⟩
          rw [wrL_succ]
          exact OSt.more (k := 1) h1 h2 h3 rfl (fun j s hjs => by
            obtain rfl : j = 0 := by
              rcases j with _ | j
              · rfl
              · simp at hjs
            simp at hjs
            subst hjs
            exact ⟨_, rfl, hst5⟩) rfl hown7 hg7
        have HM : Hid (lenV (.string (restT t (i + 1))) < lenV (.string (restT t i))) := by
          show (restT t (i + 1)).size < (restT t i).size
          rw [rest_size, rest_size]
          omega
        go_roundw
        case rel => exact (HR _ (by omega)).out
        case measure => exact HM.out
    · have hne : ((restT t i).toList == (ByteArray.toList ⟨#[]⟩)) = true := by rw [lt_size]; exact decide_eq_true (by omega)
      have hie : (restT t i).toList.isEmpty = true := by rw [← hne]; simp [ByteArray.toList_eq]
      have hsec : Hid (i = secN t) := by unfold Hid secN; omega
      obtain ⟨y0, y1, y2, -, -⟩ := blk3 (carry k11 hbel)
      go_wp2_with fail
      refine (head_impl g s t.size _ hg ⟨by omega, by omega⟩ ⟨by omega, by omega⟩).mono ?_
      rintro e w3 ⟨rfl, hb3⟩
      go_wp2_with fail
      refine (writing_any _ _ _).mono ?_
      rintro e w4 ⟨⟨v, rfl, hst, -⟩, hb4⟩
      obtain ⟨gb, gc, rfl, kb, kc⟩ := hst
      have hb5 := bel2 hb3 hb4
      have bel4 := bel2 hbel hb5
      have hst5 : StepIs (w4.alloc (.cells #[.func (.func 81) #[] #[], .func (.func 104) #[] #[.pointer (some ⟨gb, 0, none⟩), .pointer (some ⟨gc, 0, none⟩)], .func (.func 81) #[] #[]] 114)) (.func (.func 104) #[] #[.pointer (some ⟨gb, 0, none⟩), .pointer (some ⟨gc, 0, none⟩)]) (.write 0 (headB g s t.size)) := ⟨gb, gc, rfl, carryA kb _, carryA kc _⟩
      obtain ⟨fs, h1, h2, h3⟩ := (hown.below hb5).below (albel w4 (.cells #[.func (.func 81) #[] #[], .func (.func 104) #[] #[.pointer (some ⟨gb, 0, none⟩), .pointer (some ⟨gc, 0, none⟩)], .func (.func 81) #[] #[]] 114))
      have HE : Hid ((w4.alloc (.cells #[.func (.func 81) #[] #[], .func (.func 104) #[] #[.pointer (some ⟨gb, 0, none⟩), .pointer (some ⟨gc, 0, none⟩)], .func (.func 81) #[] #[]] 114)).heap[w4.heap.size]? = some (.cells #[.func (.func 81) #[] #[], .func (.func 104) #[] #[.pointer (some ⟨gb, 0, none⟩), .pointer (some ⟨gc, 0, none⟩)], .func (.func 81) #[] #[]] 114)) := heap_alloc_new w4 _
      have hzw : Hid (w1.heap.size ≤ w4.heap.size) := bel4.size
      have hwl : (wrL f t i).length ≤ 126 := by rw [wrL_length]; omega
      obtain ⟨j0, hj, hy0, hy1, hy2⟩ := info_parts info_step
      clear hb3 hb4
      go_wp2_with (first
        | (at_builtin; go_loud (refine wpList_append_lies _ rfl _ _ 111 rfl w1.heap.size 114 j0 .nilFunc 1 8 Tryz.underlying111 hj hy0 hy1 hy2 rfl (by decide) _ (wrL f t i).length fs rfl h2 ⟨w4.heap.size, 0, none⟩ 3 3 [.func (.func 81) #[] #[], .func (.func 104) #[] #[.pointer (some ⟨gb, 0, none⟩), .pointer (some ⟨gc, 0, none⟩)], .func (.func 81) #[] #[]] rfl rfl (World.news_of_block HE.out) (by intro u hu; simp at hu; rcases hu with rfl | rfl | rfl <;> rfl) (by decide) (by unfold maxLen; omega) (by omega) (by simp; have := hzw.out; omega) _ rfl ?_); intro g5 cap5 w5 hown7 hg7 hat7 hlt7))
      have HF : Hid ((∃ g' c', (Ending.returned (.slice (some ⟨g5, 0, none⟩) ((wrL f t i).length + 3) cap5)) = .returned (.slice (some ⟨g', 0, none⟩) (secN t + 3) c') ∧ OSt w.heap.size w5 (.slice (some ⟨g', 0, none⟩) (secN t + 3) c') (putL f t (headB g s t.size))) ∧ Below w.heap.size w w5) := by
        have hbel5 : Below w1.heap.size w1 w5 := (bel4.trans ((albel w4 _).mono bel4.size)).grown hg7 (Nat.le_trans bel4.size (albel w4 _).size) (fun q hq => (h2.lt q hq).1)
        have ho := OSt.more (k := 3) (m := [.flush, .write 0 (headB g s t.size), .flush]) h1 h2 h3 rfl (fun j s hjs => by
            rcases j with _ | _ | _ | j
            · simp at hjs; subst hjs; exact ⟨_, rfl, rfl⟩
            · simp at hjs; subst hjs; exact ⟨_, rfl, hst5⟩
            · simp at hjs; subst hjs; exact ⟨_, rfl, rfl⟩
            · simp at hjs) rfl hown7 hg7
        rw [wrL_length] at ho ⊢
        obtain rfl := hsec.out
        exact ⟨⟨g5, cap5, rfl, OSt.mono ho B1.size⟩, bel2 B1 hbel5⟩
      go_ret
      exact HF.out
end Go.Proofs.YtfiabbfdnmldjaaGreatDoor.X0
