/-
  The digest of a text, as the specification makes it.
-/
import Derived.Test.YtkpjdmmgdmbmnabDoorK7
import Derived.Test.YtkpjdmmgdmbmnabDoorK4
import Derived.Test.YtkpjdmmgdmbmnabDoorCB
namespace Go.Proofs.YtkpjdmmgdmbmnabDoor.K8
open Go.RowKit
open Go.Proofs.YtkpjdmmgdmbmnabDoor.C0
open Go.Proofs.YtkpjdmmgdmbmnabDoor.CB
open Go.Proofs.YtkpjdmmgdmbmnabDoor.K1 (num)
open Go.Proofs.YtkpjdmmgdmbmnabDoor.K3 (byt bytesOf)
open Go.Proofs.YtkpjdmmgdmbmnabDoor.K6 (i64s)
open Go.Deep (blk_alloc_lt blk_alloc_new nblk_alloc)

def startCells : Array Value := (i64s Ms.start.list).toArray
set_option maxRecDepth 100000 in
theorem start_spec (w : World) : Calls Tryd.prog 45 #[] w fun e w' => e = .returned (.slice (some ⟨w.heap.size, 0, none⟩) 8 8) ∧ w' = w.alloc (.cells startCells 2) := by
  go_enter Tryd.func45, Tryd.ntmps45
  go_wp2
  go_ret
  exact ⟨rfl, rfl⟩

def lenV : Value → Nat
  | .slice _ n _ => n
  | _ => 0
/-- The bytes ahead of the length, z zeros of them. -/
def head (l : List UInt8) (z : Nat) : List UInt8 := l ++ 128 :: List.replicate z 0
theorem head_length (l : List UInt8) (z : Nat) : (head l z).length = l.length + 1 + z := by simp [head]; omega
theorem head_snoc (l : List UInt8) (z : Nat) : head l z ++ [0] = head l (z + 1) := by simp [head, List.replicate_succ']
def room (n : Nat) : Nat := 64 * Ms.blocks n - 9 - n
theorem room_test (n z : Nat) (hz : z ≤ room n) : ((n + 1 + z) % 64 = 56) ↔ z = room n := by
  unfold room Ms.blocks at *; omega
theorem head_pad (l : List UInt8) : Ms.pad l = head l (room l.length) ++ Ms.be8 (8 * l.length) := by simp [Ms.pad, head, room]

def Rel1 (l : List UInt8) (base : Nat) (w0 : World) (v : Value) (w : World) : Prop :=
  ∃ z, z ≤ room l.length ∧ has base v (head l z) w ∧ Below base w0 w ∧ base ≤ w.heap.size
def Rel2 (l : List UInt8) (base : Nat) (w0 : World) (v k : Value) (w : World) : Prop :=
  ∃ i : Nat, i ≤ 8 ∧ k = .int .i64 (56 - 8 * (i : Int)) ∧ has base v (head l (room l.length) ++ (Ms.be8 (8 * l.length)).take i) w ∧ Below base w0 w ∧ base ≤ w.heap.size

theorem one_cell (w : World) (c : UInt8) (x : Value) (hx : x = .int .u8 (c.toNat : Int)) (t : TypeId) : ∀ j u, ((Mb.cells [c]).map (Value.int .u8))[j]? = some u → (w.alloc (.cells #[x] t)).cell? ((⟨w.heap.size, 0, none⟩ : Addr).add j) = some u := by
  subst hx; exact cell_one_new w _ t

theorem one_cell_drew (w : World) (c : UInt8) (x : Value) (hx : x = .int .u8 (c.toNat : Int)) (t : TypeId) (g : Nat) (hg : g = w.heap.size) : ∀ j u, ((Mb.cells [c]).map (Value.int .u8))[j]? = some u → (w.alloc (.cells #[x] t)).drew.cell? ((⟨g, 0, none⟩ : Addr).add j) = some u := by
  subst hg; exact one_cell w c x hx t
theorem be8_next (n i : Nat) (hi : i < 8) : (Ms.be8 n).take (i + 1) = (Ms.be8 n).take i ++ [UInt8.ofNat (n / 2 ^ (56 - 8 * i))] := by
  match i, hi with
  | 0, _ => simp [Ms.be8]
  | 1, _ => simp [Ms.be8]
  | 2, _ => simp [Ms.be8]
  | 3, _ => simp [Ms.be8]
  | 4, _ => simp [Ms.be8]
  | 5, _ => simp [Ms.be8]
  | 6, _ => simp [Ms.be8]
  | 7, _ => simp [Ms.be8]
theorem head_zero (l : List UInt8) : l ++ [128] = head l 0 := rfl

/-- Where a state of the specification's lies. -/
def stAt (s : Ms.St) (v : Value) (w : World) : Prop := ∃ g cap, v = .slice (some ⟨g, 0, none⟩) 8 cap ∧ g < w.heap.size ∧ ∀ j, j < 8 → w.cell? ⟨g, j, none⟩ = some (.int .i64 (s.list.getD j 0 : Nat))
theorem stAt.below {s : Ms.St} {v : Value} {w w' : World} (h : stAt s v w) (hb : Below w.heap.size w w') : stAt s v w' := by
  obtain ⟨g, cap, h1, h2, h3⟩ := h
  exact ⟨g, cap, h1, Nat.lt_of_lt_of_le h2 hb.size, fun j hj => by rw [hb.cell (p := ⟨g, j, none⟩) h2]; exact h3 j hj⟩
theorem i64s_at (s : Ms.St) (j : Nat) (hj : j < 8) : (i64s s.list)[j]? = some (.int .i64 (s.list.getD j 0 : Nat)) := by
  match j, hj with
  | 0, _ => rfl
  | 1, _ => rfl
  | 2, _ => rfl
  | 3, _ => rfl
  | 4, _ => rfl
  | 5, _ => rfl
  | 6, _ => rfl
  | 7, _ => rfl
theorem stAt_of_owns {s : Ms.St} {v : Value} {w : World} {base : Nat} (h : w.ownsRow base 2 1 v 8 (i64s s.list)) : stAt s v w := by
  rcases h.2 with ⟨_, h1⟩ | ⟨g, cap, cur, h1, h2, h3, h4, h5, h6, h7⟩
  · omega
  · refine ⟨g, cap, h1, (Array.getElem?_eq_some_iff.1 h3).1, fun j hj => ?_⟩
    have hc := World.ownsRow.cells h (by rw [h1]; rfl) j _ (i64s_at s j hj)
    have ha : (⟨g, 0, none⟩ : Addr).add j = ⟨g, j, none⟩ := by unfold Addr.add; split <;> simp_all
    rw [ha] at hc
    exact hc
theorem stAt_start (w : World) : stAt Ms.start (.slice (some ⟨w.heap.size, 0, none⟩) 8 8) (w.alloc (.cells startCells 2)) := by
  refine ⟨w.heap.size, 8, rfl, by rw [nblk_alloc]; omega, fun j hj => ?_⟩
  rw [K2.cell_at (blk_alloc_new _ _)]
  show (i64s Ms.start.list).toArray[j]? = _
  rw [List.getElem?_toArray, i64s_at _ j hj]

/-- What holds at the head of a round that takes a block. -/
def Rel3 (p : List UInt8) (n : Nat) (base : Nat) (w0 : World) (vb : Value) (st i : Value) (w : World) : Prop :=
  ∃ k : Nat, k ≤ n ∧ i = .int .i64 ((64 * k : Nat) : Int) ∧ stAt (Ms.states p k) st w ∧ has base vb p w ∧ Below base w0 w ∧ base ≤ w.heap.size
set_option maxRecDepth 100000 in
theorem conv_mid {base b cap : Nat} {p : List UInt8} {w : World} (h : has base (.slice (some ⟨b, 0, none⟩) p.length cap) p w) (k : Nat) (hk : 64 * k + 64 ≤ p.length) (c : Nat) :
    (convert 64 9 (.slice (some ⟨b, 64 * k, none⟩) 64 c)).run Tryd.prog w = .ok (.string ⟨((p.drop (64 * k)).take 64).toArray⟩) w := by
  obtain ⟨b', cap', h1, _, _, _, h5, _⟩ := h
  injection h1 with e1 e2 e3
  injection e1 with e1
  injection e1 with e1
  subst e1
  have hl : ((p.drop (64 * k)).take 64).length = 64 := by simp; omega
  have := run_convert_bytes_back (P := Tryd.prog) w 64 9 5 ⟨b, 64 * k, none⟩ c ((p.drop (64 * k)).take 64) Tryd.underlying64 Tryd.underlying5 Tryd.underlying9 (fun j hj => by
    have ha : (⟨b, 64 * k, none⟩ : Addr).add j = ⟨b, 64 * k + j, none⟩ := by unfold Addr.add; split <;> simp_all
    rw [ha, h5 (64 * k + j) (by omega)]
    simp)
  rw [hl] at this
  exact this

set_option maxRecDepth 100000 in
set_option maxHeartbeats 1600000 in
theorem all_spec (s : ByteArray) (w : World) (hs : s.size ≤ 20000) :
    Calls Tryd.prog 33 #[.string s] w fun e w' => e = .returned (.string ⟨(Ms.digest (bytesOf s)).toArray⟩) ∧ Below w.heap.size w w' := by
  have hbs := fun wx : World => run_bytes_of_string (P := Tryd.prog) wx 9 64 5 s Tryd.underlying9 Tryd.underlying64 Tryd.underlying5
  have hcapge := grownCap_ge w s.size 0 5
  go_enter Tryd.func33, Tryd.ntmps33
  go_wp2_with (at_builtin; go_loud (refine wpList_append_has rfl _ _ rfl w.heap.size w _ (bytesOf s) rfl (((has_bytes w s _ hcapge).alloc _).drew) ((((Below.refl _ _).alloc (Nat.le_refl _) _).alloc (by rw [nblk_alloc]; omega) _).drew) (by show w.heap.size ≤ ((w.alloc _).alloc _).heap.size; rw [nblk_alloc, nblk_alloc]; omega) ⟨w.heap.size + 1, 0, none⟩ 1 1 [128] rfl rfl (one_cell_drew _ 128 _ rfl _ _ (by rw [nblk_alloc])) (by decide) (by simp; omega) ?_))
  intro v1 w1 hh1 hb1 hz1
  rw [head_zero] at hh1
  have HQ : Hid (Rel1 (bytesOf s) w.heap.size w v1 w1) := ⟨0, Nat.zero_le _, hh1, hb1, hz1⟩
  have hl : (bytesOf s).length = s.size := by simp
  have Hl : Hid ((bytesOf s).length = s.size) := hl
  clear hh1 hb1 hz1 hbs hcapge hl
  have hrm : Hid (room s.size ≤ 100) := by unfold Hid room Ms.blocks; omega
  go_wp2_with fail
  go_loopw [3] (fun v wr => Rel1 (bytesOf s) w.heap.size w v wr) (fun v _ => s.size + 200 - lenV v)
  case atStart => exact HQ.out
  case round =>
    clear HQ
    obtain ⟨z, hz, hh, hbel, hbs⟩ := hrel
    obtain ⟨b, cap, rfl⟩ := hh.form
    rw [Hl.out] at hz
    have hlen := head_length (bytesOf s) z
    rw [Hl.out] at hlen
    have hrm' := hrm.out
    have htest := room_test s.size z hz
    by_cases hzr : z = room s.size
    · have h56 : (((head (bytesOf s) z).length : Int) % 64 != 56) = false := by
        have := htest.2 hzr
        simp; omega
      have HR : Hid (Rel2 (bytesOf s) w.heap.size w (.slice (some ⟨b, 0, none⟩) (head (bytesOf s) z).length cap) (.int .i64 56) wr) := by
        refine ⟨0, by omega, rfl, ?_, hbel, hbs⟩
        rw [Hl.out, ← hzr, List.take_zero, List.append_nil]; exact hh
      obtain ⟨n, hn⟩ : ∃ n, (head (bytesOf s) z).length = n := ⟨_, rfl⟩
      rw [hn] at h56 HR hlen
      rw [hn]
      have hn2 : n ≤ 21000 := by omega
      clear hh hbel htest hn hzr hz hlen
      go_wp2_with fail
      clear h56
      have Hroom : Hid ((head (bytesOf s) (room (bytesOf s).length)).length ≤ 21000) := by unfold Hid; rw [head_length, Hl.out]; omega
      obtain ⟨x, hx⟩ : ∃ x : Nat, 8 * s.size = x := ⟨_, rfl⟩
      have hxi : 8 * (s.size : Int) = (x : Int) := by omega
      have hx2 : x ≤ 160000 := by omega
      rw [hxi]
      have Hx : Hid (8 * s.size = x) := hx
      clear hx hxi
      go_loopw [3, 5] (fun v k wr => Rel2 (bytesOf s) w.heap.size w v k wr) (fun _ k _ => (intOf k + 8).toNat)
      case atStart => exact HR.out
      case round =>
        clear HR
        obtain ⟨i, hi, rfl, hh, hbel, hbs⟩ := hrel
        by_cases hlt : i < 8
        · have HB := be8_next (8 * (bytesOf s).length) i hlt
          have hbl : ((head (bytesOf s) (room (bytesOf s).length)) ++ (Ms.be8 (8 * (bytesOf s).length)).take i).length + 1 ≤ 100000 := by
            have h1 := Hroom.out
            rw [List.length_append, List.length_take]; omega
          obtain ⟨e, he⟩ : ∃ e : Nat, 56 - 8 * i = e := ⟨_, rfl⟩
          have hei : (56 : Int) - 8 * (i : Int) = (e : Int) := by omega
          rw [Hl.out] at HB
          rw [he] at HB
          rw [Hx.out] at HB
          have HB1 : Hid ((Ms.be8 (8 * (bytesOf s).length)).take (i + 1) = (Ms.be8 (8 * (bytesOf s).length)).take i ++ [UInt8.ofNat (x / 2 ^ e)]) := by
            unfold Hid; rw [Hl.out, Hx.out]; exact HB
          clear HB
          have hbyte : Value.int .u8 ((x : Int) / 2 ^ e % 256) = .int .u8 ((UInt8.ofNat (x / 2 ^ e)).toNat : Int) := by
            have : ((x : Int) / 2 ^ e) = ((x / 2 ^ e : Nat) : Int) := by simp
            rw [this, UInt8.toNat_ofNat']; simp
          have Hbyte : Hid (Value.int .u8 ((x : Int) / 2 ^ e % 256) = .int .u8 ((UInt8.ofNat (x / 2 ^ e)).toNat : Int)) := hbyte
          clear hbyte
          have he2 : e ≤ 56 := by omega
          rw [hei]
          have He : Hid (56 - 8 * i = e) := he
          have Hei : Hid ((56 : Int) - 8 * (i : Int) = (e : Int)) := hei
          clear he hei
          obtain ⟨L, hL⟩ : ∃ L, (head (bytesOf s) (room (bytesOf s).length)) ++ (Ms.be8 (8 * (bytesOf s).length)).take i = L := ⟨_, rfl⟩
          rw [hL] at hh hbl
          have HL : Hid (head (bytesOf s) (room (bytesOf s).length) ++ (Ms.be8 (8 * (bytesOf s).length)).take (i + 1) = L ++ [UInt8.ofNat (x / 2 ^ e)]) := by
            unfold Hid; rw [HB1.out, ← List.append_assoc, hL]
          clear hL HB1
          go_wp2_with (at_builtin; go_loud (refine wpList_append_has rfl _ _ rfl w.heap.size w _ L rfl (hh.alloc _) (hbel.alloc hbs _) (by rw [nblk_alloc]; omega) ⟨wr.heap.size, 0, none⟩ 1 1 [UInt8.ofNat (x / 2 ^ e)] rfl rfl (one_cell _ _ _ Hbyte.out _) (by decide) hbl ?_))
          intro v2 w2 hh2 hb2 hz2
          rw [← HL.out] at hh2
          have HN : Hid (Rel2 (bytesOf s) w.heap.size w v2 (.int .i64 ((e : Int) - 8)) w2) := by
            refine ⟨i + 1, by omega, ?_, hh2, hb2, hz2⟩
            have := Hei.out
            congr 1; omega
          clear hh2 hb2 hz2 hh hbel
          go_wp2
          go_roundw
          case rel => exact HN.out
          case measure =>
            have := Hei.out
            simp [intOf]; omega
        · obtain rfl : i = 8 := by omega
          have HP : Hid (has w.heap.size u3 (Ms.pad (bytesOf s)) wr) := by
            rw [show (Ms.be8 (8 * (bytesOf s).length)).take 8 = Ms.be8 (8 * (bytesOf s).length) from rfl, ← head_pad] at hh
            exact hh
          have HB : Hid (Below w.heap.size w wr) := hbel
          clear hh hbel Hx Hroom
          go_wp2_with fail
          refine (start_spec _).mono ?_
          rintro e w3 ⟨rfl, hw3⟩
          obtain ⟨N, hN⟩ : ∃ N, Ms.blocks s.size = N := ⟨_, rfl⟩
          have hNb : N ≤ 400 := by rw [← hN]; unfold Ms.blocks; omega
          have HD : Hid (Ms.digest (bytesOf s) = Ms.bytes (Ms.states (Ms.pad (bytesOf s)) N)) := by
            unfold Hid Ms.digest; rw [Hl.out, hN]
          have HPL : Hid ((Ms.pad (bytesOf s)).length = 64 * N) := by unfold Hid; rw [Ms.pad_length, Hl.out, hN]
          have HQ : Hid (Rel3 (Ms.pad (bytesOf s)) N w.heap.size w u3 (.slice (some ⟨wr.heap.size, 0, none⟩) 8 8) (.int .i64 0) w3) := by
            rw [hw3]
            exact ⟨0, Nat.zero_le _, rfl, stAt_start wr, HP.out.alloc _, HB.out.alloc hbs _, by rw [nblk_alloc]; omega⟩
          obtain ⟨pb, pcap, rfl⟩ := HP.out.form
          rw [HPL.out]
          rw [HPL.out] at HQ
          clear HP HB hw3 hN
          generalize Ms.pad (bytesOf s) = p at *
          go_wp2_with fail
          go_loopw [6, 7] (fun st i wr => Rel3 p N w.heap.size w (.slice (some ⟨pb, 0, none⟩) (64 * N) pcap) st i wr) (fun _ i _ => 64 * N - (intOf i).toNat)
          case atStart => exact HQ.out
          case round =>
            clear HQ
            obtain ⟨k, hk, rfl, hst, hh, hbel, hbs⟩ := hrel
            have hok := Ms.states_ok p k
            obtain ⟨g, gcap, rfl, hg, hgc⟩ := hst
            by_cases hlt : k < N
            · have HS : Hid (Ms.states p (k + 1) = Ms.blk (Ms.states p k) ((p.drop (64 * k)).take 64)) := rfl
              have hconv := fun c => conv_mid (by rw [HPL.out]; exact hh) k (by have := HPL.out; omega) c
              have hbl : (⟨((p.drop (64 * k)).take 64).toArray⟩ : ByteArray).size = 64 := by
                have := HPL.out
                simp [ByteArray.size]; omega
              have hcall := K7.block_spec (Ms.states p k) g gcap ⟨((p.drop (64 * k)).take 64).toArray⟩ wr hok hbl hg hgc
              have hcap2 : Hid (64 * N ≤ pcap) := by
                obtain ⟨b', cap', h1, _, _, h4, _⟩ := hh
                injection h1 with e1 e2 e3
                rw [← e3] at h4
                have := HPL.out
                unfold Hid; omega
              have hcap3 := hcap2.out
              have Hh : Hid (has w.heap.size (.slice (some ⟨pb, 0, none⟩) (64 * N) pcap) p wr) := hh
              have Hbel : Hid (Below w.heap.size w wr) := hbel
              clear hh hbel hgc hok
              generalize (p.drop (64 * k)).take 64 = blk at *
              generalize Ms.states p k = st at *
              have h64 : 64 * k + 64 - 64 * k = 64 := by omega
              go_wp2_with fail
              refine hcall.mono ?_
              rintro e w4 ⟨v4, rfl, hown, hb4⟩
              have HN : Hid (Rel3 p N w.heap.size w (.slice (some ⟨pb, 0, none⟩) (64 * N) pcap) v4 (.int .i64 ((64 * (k + 1) : Nat) : Int)) w4) := by
                refine ⟨k + 1, hlt, rfl, ?_, Hh.out.below hb4, Hbel.out.trans (hb4.mono hbs), Nat.le_trans hbs hb4.size⟩
                rw [HS.out]
                exact stAt_of_owns hown
              clear hown hb4 hcall hconv
              go_wp2
              go_roundw
              case rel => exact HN.out
              case measure => simp [intOf]; omega
            · obtain rfl : k = N := by omega
              obtain ⟨i0, hi0, hz0, hz1, hz2⟩ := info_parts info_u8
              have Hbel : Hid (Below w.heap.size w wr) := hbel
              have HQ : Hid (K4.Rel (Ms.states p k) wr.heap.size wr (.slice (some ⟨wr.heap.size, 0, none⟩) 0 0) (.int .i64 0) (wr.alloc (.cells #[] 5))) :=
                ⟨0, by omega, rfl, owns_lit0 _ _ (Nat.le_refl _), (Below.refl _ _).alloc (Nat.le_refl _) _, by rw [nblk_alloc]; omega⟩
              clear hh hbel
              generalize Ms.states p k = st at *
              have Hgc : Hid (∀ j, j < 8 → wr.cell? ⟨g, j, none⟩ = some (.int .i64 (st.list.getD j 0 : Nat))) := hgc
              have hgs := hg
              clear hgc
              go_wp2_with fail
              obtain ⟨W0, hW0⟩ : ∃ x : World, x = wr := ⟨_, rfl⟩
              subst hW0
              rw [show ((64 * k : Nat) : Int) = 64 * (k : Int) by simp]
              go_loopw [8, 9] (fun b i wr => K4.Rel st W0.heap.size W0 b i wr) (fun _ i _ => 8 - (intOf i).toNat)
              case atStart => exact HQ.out
              case round =>
                clear HQ
                obtain ⟨k8, hk8, rfl, hown, hbel, hbs8⟩ := hrel
                by_cases hlt8 : k8 < 8
                · have hcell : wr.cell? ⟨g, k8, none⟩ = some (.int .i64 (st.list.getD k8 0 : Nat)) := by rw [hbel.cell (p := ⟨g, k8, none⟩) hgs]; exact Hgc.out k8 hlt8
                  have hlk := K4.list_lt hok k8 hlt8
                  have HT : Hid ((st.list.take (k8 + 1)).flatMap Ms.be4 = (st.list.take k8).flatMap Ms.be4 ++ Ms.be4 (st.list.getD k8 0)) := K4.list_take st k8 hlt8
                  have HLen := K4.list_len st k8 (by omega)
                  generalize st.list.getD k8 0 = num at *
                  generalize (st.list.take k8).flatMap Ms.be4 = pre at *
                  have hk8i : (k8 : Int) < 8 := by omega
                  go_wp2_with (first
                    | (at_builtin; refine wpList_append_own _ rfl _ _ 64 rfl W0.heap.size 5 i0 (.int .u8 0) 1 1 Tryd.underlying64 hi0 hz0 hz1 hz2 rfl (by decide) _ _ _ rfl (hown.alloc _) ⟨wr.heap.size, 0, none⟩ 4 4 [_, _, _, _] rfl rfl (K4.cell_four_new _ _ _ _ _ _) ?c2 ?c3 ?c4 ?c5 ?_))
                  case c2 => intro u hu; simp at hu; rcases hu with rfl | rfl | rfl | rfl <;> rfl
                  case c3 => unfold maxLen; omega
                  case c4 => omega
                  case c5 => simp; omega
                  intro v' w2 hown' hgrow _
                  have HO : Hid (owns W0.heap.size v' (pre ++ Ms.be4 num) w2) := K4.owns_four hlk HLen hown'
                  have HW : Hid (Below W0.heap.size W0 w2) := (hbel.alloc hbs8 _).grown hgrow (by rw [nblk_alloc]; omega) (fun k hk => (hown.lt k hk).1)
                  have HZ : Hid (W0.heap.size ≤ w2.heap.size) := by have := hgrow.size; rw [nblk_alloc] at this; unfold Hid; omega
                  clear hown' hgrow hown hbel hbs8 hcell
                  go_wp2
                  go_roundw
                  case rel => exact ⟨k8 + 1, by omega, by go_num, by rw [HT.out]; exact HO.out, HW.out, HZ.out⟩
                  case measure => simp [intOf]; omega
                · obtain rfl : k8 = 8 := by omega
                  have hconv := conv_own hown
                  have HE : Hid ((st.list.take 8).flatMap Ms.be4 = Ms.bytes st) := rfl
                  generalize (st.list.take 8).flatMap Ms.be4 = res at *
                  have HW : Hid (Below w.heap.size w wr) := Hbel.out.trans (hbel.mono hbs)
                  clear hown hbel hbs8
                  go_wp2
                  go_ret
                  exact ⟨ret_str (by rw [HD.out]; exact HE.out), HW.out⟩
    · have h56 : (((head (bytesOf s) z).length : Int) % 64 != 56) = true := by
        have := mt htest.1 hzr
        simp; omega
      have hle : (head (bytesOf s) z).length + 1 ≤ 100000 := by omega
      have Hz : Hid (z + 1 ≤ room s.size) := by unfold Hid; omega
      clear htest hzr hz
      go_wp2_with (at_builtin; go_loud (refine wpList_append_has rfl _ _ rfl w.heap.size w _ (head (bytesOf s) z) rfl (hh.alloc _) (hbel.alloc hbs _) (by rw [nblk_alloc]; omega) ⟨wr.heap.size, 0, none⟩ 1 1 [0] rfl rfl (one_cell _ 0 _ rfl _) (by decide) hle ?_))
      intro v2 w2 hh2 hb2 hz2
      rw [head_snoc] at hh2
      have HN : Hid (Rel1 (bytesOf s) w.heap.size w v2 w2) := ⟨z + 1, by rw [Hl.out]; exact Hz.out, hh2, hb2, hz2⟩
      have hlv : lenV v2 = s.size + 1 + (z + 1) := by
        obtain ⟨b2, cap2, rfl⟩ := hh2.form
        show (head (bytesOf s) (z + 1)).length = _
        rw [head_length, Hl.out]
      have Hlv : Hid (lenV v2 = s.size + 1 + (z + 1)) := hlv
      have Hlen : Hid ((head (bytesOf s) z).length = s.size + 1 + z) := hlen
      clear hh2 hb2 hz2 hlv hh hbel hlen
      go_wp2
      go_roundw
      case rel => exact HN.out
      case measure =>
        show s.size + 200 - lenV v2 < s.size + 200 - (head (bytesOf s) z).length
        have h1 := Hz.out
        have h2 := hrm.out
        rw [Hlv.out, Hlen.out]; omega
end Go.Proofs.YtkpjdmmgdmbmnabDoor.K8
