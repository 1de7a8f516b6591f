/-
  The draw for DiskCrash.
-/
import Derived.Test.YtoihhjdllcockaaE3
namespace Go.Proofs.Ytoihhjdllcockaa.E4
open Go.RowKit
open Go.Proofs.Ytoihhjdllcockaa.C0 Go.Proofs.Ytoihhjdllcockaa.D0 Go.Proofs.Ytoihhjdllcockaa.D6 Go.Proofs.Ytoihhjdllcockaa.D7 Go.Proofs.Ytoihhjdllcockaa.D8 Go.Proofs.Ytoihhjdllcockaa.D9 Go.Proofs.Ytoihhjdllcockaa.E0 Go.Proofs.Ytoihhjdllcockaa.E1 Go.Proofs.Ytoihhjdllcockaa.E2 Go.Proofs.Ytoihhjdllcockaa.E3 Go.Proofs.Ytoihhjdllcockaa.S0 Go.Proofs.Ytoihhjdllcockaa.S1 Go.Proofs.Ytoihhjdllcockaa.S2 Go.Proofs.Ytoihhjdllcockaa.S4 Go.Proofs.Ytoihhjdllcockaa.S7 Go.Proofs.Ytoihhjdllcockaa.O1 Go.Proofs.Ytoihhjdllcockaa.T2 Go.Proofs.Ytoihhjdllcockaa.T3 Go.Proofs.Ytoihhjdllcockaa.T4 Go.Proofs.Ytoihhjdllcockaa.T5 Go.Proofs.Ytoihhjdllcockaa.TC
theorem OK.mono {B C : Nat} {w : World} {v : Value} {l : List Int} (h : OK B w v l) (hC : C ≤ B) : OK C w v l := by
  refine ⟨h.1, ?_⟩
  rcases h.2 with hn | ⟨g, cap, cur, e, hb, rest⟩
  · exact .inl hn
  · exact .inr ⟨g, cap, cur, e, Nat.le_trans hC hb, rest⟩
theorem gKeep {w wr : World} {p n L c c' : Nat} {v : Value} {ss : List ByteArray} {ps : List Pend} {a a' : Option Addr} (h : GS w p n v L ss ps a c a' c' wr) :
    Calls Try.prog 42 #[.pointer (some ⟨p, 0, none⟩)] wr fun e w' => ∃ (l : List Int) (f : Option Addr) (cap : Nat), e = .returned (.slice f l.length cap) ∧ l.length ≤ 13 ∧ OK (w.heap.size + 1) w' (.slice f l.length cap) l ∧ GS w p n v L ss ps a c a' c' w' :=
  (keep_any _ p n v wr h.dr).mono (fun _ _ ⟨l, f, cap, he, hl, ho, hd, ht⟩ => ⟨l, f, cap, he, hl, OK.mono ho (by have := lt_some h.res; omega), h.drawn hd ht⟩)
def DrewCrash (w : World) (e : Ending) (w' : World) : Prop :=
  ∃ (ss : List ByteArray) (ps : List Pend) (a : Option Addr) (c : Nat) (a' : Option Addr) (c' : Nat) (l : List Int) (f : Option Addr) (cap : Nat), e = .returned (.tuple #[.agg #[.slice a ss.length c, .slice a' ps.length c'], .slice f l.length cap]) ∧ l.length ≤ 13 ∧ Ints w' (.slice f l.length cap) l ∧ Got w ss ps a c a' c' w'
set_option maxRecDepth 100000 in
set_option maxHeartbeats 1600000 in
theorem crash_draw (v : Value) (n : Nat) (w : World) (hc : IsCode w.heap.size w v n) :
    Calls Try.prog 11 #[v] w fun e w' => DrewCrash w e w' := by
  go_enter Try.func11, Try.ntmps11
  go_wp2_with fail
  refine (srcA v n w _ hc).mono ?_
  rintro e w1 ⟨rfl, d1, b1⟩
  go_wp2_with fail
  refine (l03Disk_any _ _ n v w1 d1).mono ?_
  rintro e w2 ⟨ss, ps, a, c, a', c', rfl, o2, l1, l2, z1, z2, d2, t2⟩
  have G := GS.start b1 d1.lt o2 l1 l2 z1 z2 d2 t2
  clear b1 d1 o2 l1 l2 z1 z2 d2 t2
  obtain ⟨W, hW⟩ : ∃ W, w2.alloc (.cells #[.slice a ss.length c, .slice a' ps.length c'] 26) = W := ⟨_, rfl⟩
  rw [hW] at G
  go_upto_region 3 with fail
  clear hW
  generalize w2.heap.size = L at *
  obtain ⟨q0, q1, qf, q9⟩ := blk2 G.loc
  go_region_held3 (fun w' => w'.cell? ⟨L, 0, none⟩ = some (.slice a ss.length c) ∧ w'.cell? ⟨L, 1, none⟩ = some (.slice a' ps.length c'))
    (first
      | with_reducible exact keepG G
      | with_reducible exact keepG G.drew
      | with_reducible exact keepR G _ _)
    (first
      | (go_at_call 42
         refine (gKeep (w := w) (p := w.heap.size + 1) (n := n) (v := v) (L := L) (ss := ss) (ps := ps) (a := a) (c := c) (a' := a') (c' := c') ?hE).mono ?_
         case hE => first | exact G | exact G.drew
         rintro e w4 ⟨l, f, cap, rfl, hl, ok, G⟩
         obtain ⟨r0, r1, rf, r9⟩ := blk2 G.res))
  have HK : Hid (Ints ((w4.setCell ⟨w.heap.size, 0, none⟩ (.slice a ss.length c)).setCell ⟨w.heap.size, 1, none⟩ (.slice a' ps.length c')) (.slice f l.length cap) l) :=
    OK.ints (B := w.heap.size + 1) (own_keep ok fun g hg => (D7.set2_wrote w4 w.heap.size _ _).block g (ok.lt g hg).2 (fun e => by have := (ok.lt g hg).1; omega))
  have HF : Hid (DrewCrash w (.returned (.tuple #[.agg #[.slice a ss.length c, .slice a' ps.length c'], .slice f l.length cap])) ((w4.setCell ⟨w.heap.size, 0, none⟩ (.slice a ss.length c)).setCell ⟨w.heap.size, 1, none⟩ (.slice a' ps.length c'))) := ⟨ss, ps, a, c, a', c', l, f, cap, rfl, hl, HK.out, G.fill _ _⟩
  go_wp2_with fail
  exact bodyPost_ret (v := .tuple #[.agg #[.slice a ss.length c, .slice a' ps.length c'], .slice f l.length cap]) (by simp [results, Try.results11, go_sem, r0, r1]) rfl HF.out
end Go.Proofs.Ytoihhjdllcockaa.E4
