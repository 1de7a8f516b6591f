/-
  Rows cut out of one piece of memory, and what is split, in the program.
-/
import Derived.Test.YtianmmonkllhpaaDoorJ7
import Derived.Test.YtianmmonkllhpaaDoorL5
import Derived.Lib.JoinLaws
namespace Go.Proofs.YtianmmonkllhpaaDoor.L6
open Go.RowKit
open Go.Proofs.YtianmmonkllhpaaDoor.C0 Go.Proofs.YtianmmonkllhpaaDoor.HB Go.Proofs.YtianmmonkllhpaaDoor.NU Go.Proofs.YtianmmonkllhpaaDoor.ST
open Go.Proofs.YtianmmonkllhpaaDoor.SH (Sh Shares OShares Wrote cp)
open Go.Proofs.YtianmmonkllhpaaDoor.K2 (Laid)
open Go.Proofs.YtianmmonkllhpaaDoor.J1 (yes2 no2)
open Go.Proofs.YtianmmonkllhpaaDoor.J7 (secOk salOk splitR_no)

theorem guard_size (lo hi n : Nat) : decide ((lo : Int) ≤ (n : Int) ∧ (n : Int) ≤ (hi : Int)) = decide (lo ≤ n ∧ n ≤ hi) := by
  apply Bool.eq_iff_iff.2
  rw [decide_eq_true_iff, decide_eq_true_iff]
  omega
set_option maxRecDepth 100000 in
set_option maxHeartbeats 800000 in
theorem may_impl (secret salt : ByteArray) (need cards : Int) (w : World) (hs : secret.size ≤ 9223372036854775807) (ha : salt.size ≤ 9223372036854775807) :
    Calls Tryd.prog 31 #[.string secret, .int .i64 need, .int .i64 cards, .string salt] w fun e w' => e = .returned (.bool (splitOk secret need cards salt)) ∧ w = w' := by
  have hs2 : (secret.size : Int) ≤ 9223372036854775807 := by omega
  have ha2 : (salt.size : Int) ≤ 9223372036854775807 := by omega
  have HD : Hid (splitOk secret need cards salt = (secOk secret && (decide (1 ≤ cards ∧ cards ≤ 6) && (decide (1 ≤ need ∧ need ≤ cards) && salOk salt)))) := rfl
  have HS : Hid (decide ((1 : Int) ≤ (secret.size : Int) ∧ (secret.size : Int) ≤ 16) = secOk secret) := guard_size 1 16 secret.size
  have HA : Hid (decide ((1 : Int) ≤ (salt.size : Int) ∧ (salt.size : Int) ≤ 64) = salOk salt) := guard_size 1 64 salt.size
  rw [HD.out]
  generalize secOk secret = bs at *
  generalize salOk salt = ba at *
  cases bs with
  | false =>
    go_enter Tryd.func31, Tryd.ntmps31
    go_wp2_with fail
    refine (H0.from_impl 1 _ 16 _).mono ?_
    rintro e w9 ⟨rfl, rfl⟩
    rw [HS.out]
    go_wp2
    go_ret
    exact ⟨rfl, rfl⟩
  | true =>
    by_cases hc : 1 ≤ cards ∧ cards ≤ 6
    · rw [yes2 hc]
      by_cases hn : 1 ≤ need ∧ need ≤ cards
      · rw [yes2 hn]
        go_enter Tryd.func31, Tryd.ntmps31
        go_wp2_with fail
        refine (H0.from_impl 1 _ 16 _).mono ?_
        rintro e w9 ⟨rfl, rfl⟩
        rw [HS.out]
        go_wp2_with fail
        refine (H0.from_impl 1 _ 6 _).mono ?_
        rintro e w9 ⟨rfl, rfl⟩
        rw [yes2 hc]
        go_wp2_with fail
        refine (H0.from_impl 1 _ cards _).mono ?_
        rintro e w9 ⟨rfl, rfl⟩
        rw [yes2 hn]
        go_wp2_with fail
        refine (H0.from_impl 1 _ 64 _).mono ?_
        rintro e w9 ⟨rfl, rfl⟩
        rw [HA.out]
        go_wp2
        go_ret
        exact ⟨rfl, rfl⟩
      · rw [no2 hn]
        go_enter Tryd.func31, Tryd.ntmps31
        go_wp2_with fail
        refine (H0.from_impl 1 _ 16 _).mono ?_
        rintro e w9 ⟨rfl, rfl⟩
        rw [HS.out]
        go_wp2_with fail
        refine (H0.from_impl 1 _ 6 _).mono ?_
        rintro e w9 ⟨rfl, rfl⟩
        rw [yes2 hc]
        go_wp2_with fail
        refine (H0.from_impl 1 _ cards _).mono ?_
        rintro e w9 ⟨rfl, rfl⟩
        rw [no2 hn]
        go_wp2
        go_ret
        exact ⟨rfl, rfl⟩
    · rw [no2 hc]
      go_enter Tryd.func31, Tryd.ntmps31
      go_wp2_with fail
      refine (H0.from_impl 1 _ 16 _).mono ?_
      rintro e w9 ⟨rfl, rfl⟩
      rw [HS.out]
      go_wp2_with fail
      refine (H0.from_impl 1 _ 6 _).mono ?_
      rintro e w9 ⟨rfl, rfl⟩
      rw [no2 hc]
      go_wp2
      go_ret
      exact ⟨rfl, rfl⟩

/-- The rows: each empty, with room for so many, out of one block. -/
def rowsL (g size k : Nat) : List Value := (List.range k).map fun c => .slice (some ⟨g, c * size, none⟩) 0 size
theorem rowsL_length (g size k : Nat) : (rowsL g size k).length = k := by simp [rowsL]
theorem rowsL_succ (g size k : Nat) : rowsL g size (k + 1) = rowsL g size k ++ [.slice (some ⟨g, k * size, none⟩) 0 size] := by simp [rowsL, List.range_succ]
theorem rowsL_at (g size k c : Nat) (h : c < k) : (rowsL g size k)[c]? = some (.slice (some ⟨g, c * size, none⟩) 0 size) := by simp [rowsL, h]
theorem info_rows : (Tryd.prog.info? 22).map (fun i => (i.zero, i.size, i.bytes)) = some (some (.slice none 0 0), 1, 24) := by kernel_rfl
theorem one_slice (w : World) (v : Value) (T : TypeId) : ∀ j u, [v][j]? = some u → (w.alloc (.cells #[v] T)).cell? ((⟨w.heap.size, 0, none⟩ : Addr).add j) = some u :=
  World.news_of_block (Go.Deep.blk_alloc_new _ _)
structure GroR (B : Nat) (w : World) (t : Value) (l : List Value) (x : World) : Prop where
  own : x.ownsRow B 22 1 t l.length l
  bel : Below B w x
  size : B ≤ x.heap.size
theorem GroR.below {B : Nat} {w x y : World} {t : Value} {l : List Value} (h : GroR B w t l x) (hb : Below x.heap.size x y) : GroR B w t l y :=
  ⟨own_below h.own hb, h.bel.trans (hb.mono h.size), Nat.le_trans h.size hb.size⟩
set_option maxRecDepth 100000 in
set_option maxHeartbeats 1600000 in
theorem cut_impl (rows size : Nat) (w : World) (hr1 : 1 ≤ rows) (hr : rows ≤ 6) (hs1 : 1 ≤ size) (hs : size ≤ 16) :
    Calls Tryd.prog 33 #[.int .i64 (rows : Nat), .int .i64 (size : Nat)] w fun e w' => ∃ a cap, e = .returned (.slice a rows cap) ∧ w'.ownsRow (w.heap.size + 1) 22 1 (.slice a rows cap) rows (rowsL w.heap.size size rows) ∧ (∃ f, w'.rowIs w.heap.size 5 (rows * size) f) ∧ Below w.heap.size w w' := by
  obtain ⟨N, hN⟩ : ∃ N, rows * size = N := ⟨_, rfl⟩
  have HN : Hid (rows * size = N) := hN
  have hNl : N ≤ 96 := by rw [← hN]; exact Nat.le_trans (Nat.mul_le_mul hr hs) (by decide)
  have hmul : ((rows : Nat) : Int) * ((size : Nat) : Int) = (N : Int) := by rw [← hN]; simp
  rw [hN]
  clear hN
  have hwm : IntKind.i64.wrap ((rows : Nat) : Int) = ((rows : Nat) : Int) := by rw [IntKind.wrap_i64]; omega
  have hmk := run_make_row' (P := Tryd.prog) 22 5 (.int .u8 0) 1 Tryd.underlying22 info_u8 rfl .i64 .i64 N (by omega) (by omega) w
  have hrow := World.rowIs_made w (.int .u8 0) N 5
  obtain ⟨W1, hW1⟩ : ∃ x, w.alloc (.cells (madeCells #[Value.int .u8 0] N) 5) = x := ⟨_, rfl⟩
  have Z1 : Hid (W1.heap.size = w.heap.size + 1) := by unfold Hid; rw [← hW1]; exact asz _ _
  have B1 : Hid (Below w.heap.size w W1) := by rw [← hW1]; exact albel _ _
  rw [hW1] at hmk hrow
  have HRow : Hid (∃ f, W1.rowIs w.heap.size 5 N f) := ⟨_, hrow⟩
  have G0 : Hid (GroR W1.heap.size W1 (.slice none 0 0) (rowsL w.heap.size size 0) W1) := ⟨World.ownsRow_nil _ _ _ _, Below.refl _ _, Nat.le_refl _⟩
  clear hW1 hrow
  go_enter Tryd.func33, Tryd.ntmps33
  go_wp2_with fail
  clear hmk
  go_loopw [6, 7] (fun t i x => ∃ c : Nat, c ≤ rows ∧ i = .int .i64 ((c * size : Nat) : Int) ∧ GroR W1.heap.size W1 t (rowsL w.heap.size size c) x) (fun _ i _ => N - (intOf i).toNat)
  case atStart => exact ⟨0, Nat.zero_le _, by simp, G0.out⟩
  case round =>
    clear G0
    obtain ⟨c, hc, rfl, hgro⟩ := hrel
    by_cases hct : c < rows
    · have hle : c * size + size ≤ N := by
        rw [← HN.out, show c * size + size = (c + 1) * size by rw [Nat.add_mul, Nat.one_mul]]
        exact Nat.mul_le_mul_right _ hct
      have HF : Hid ((c + 1) * size = c * size + size) := by unfold Hid; rw [Nat.add_mul, Nat.one_mul]
      have HT : Hid (rowsL w.heap.size size (c + 1) = rowsL w.heap.size size c ++ [.slice (some ⟨w.heap.size, c * size, none⟩) 0 size]) := rowsL_succ _ _ _
      have HTn : Hid ((rowsL w.heap.size size c).length = c) := rowsL_length _ _ _
      have HG : Hid (GroR W1.heap.size W1 u6 (rowsL w.heap.size size c) wr) := hgro
      clear hgro
      generalize rowsL w.heap.size size c = L1 at *
      generalize hfr : c * size = fr at *
      have hi1 : (fr : Int) < (N : Int) := by omega
      have hi2 : (fr : Int) + (size : Int) ≤ (N : Int) := by omega
      have hi3 : (fr : Int) ≤ (fr : Int) + (size : Int) := by omega
      clear hfr
      have G3 : Hid (GroR W1.heap.size W1 u6 L1 (wr.alloc (.cells #[.slice (some ⟨w.heap.size, fr, none⟩) 0 size] 22))) := HG.out.below (albel _ _)
      go_wp2_with (first
        | (at_builtin; refine NU.list_app (by rfl) _ _ 53 22 (by rfl) W1.heap.size (.slice none 0 0) 1 24 Tryd.underlying53 info_rows (by rfl) (by decide) (by decide) u6 _ _ (by rfl) G3.out.own (by have := HTn.out; omega) ⟨wr.heap.size, 0, none⟩ 1 [.slice (some ⟨w.heap.size, fr, none⟩) 0 size] (by rfl) (by rfl) (one_slice _ _ _) (by simp [Value.oneCell']) G3.out.size ?_; intro gg cap1 xn hown1 hgrow hat hlt1))
      have HE : Hid (GroR W1.heap.size W1 (.slice (some ⟨gg, 0, none⟩) (L1.length + 1) cap1) (rowsL w.heap.size size (c + 1)) xn) := by
        refine ⟨?_, grown_bel G3.out.bel G3.out.own hgrow G3.out.size, Nat.le_trans G3.out.size hgrow.size⟩
        rw [HT.out, List.length_append]
        exact hown1
      clear hown1 hgrow hat hlt1
      exact ⟨⟨c + 1, hct, by rw [HF.out]; simp, HE.out⟩, by simp [intOf]; omega⟩
    · obtain rfl : c = rows := by omega
      have HX : Hid (∃ a cap, u6 = .slice a c cap ∧ wr.ownsRow (w.heap.size + 1) 22 1 (.slice a c cap) c (rowsL w.heap.size size c) ∧ (∃ f, wr.rowIs w.heap.size 5 N f) ∧ Below w.heap.size w wr) := by
        have h := hgro.own
        have hl := rowsL_length w.heap.size size c
        obtain ⟨f, hf⟩ := HRow.out
        have hb := hgro.bel
        have hr2 := hf.of_block (hb.block _ (by have := Z1.out; omega))
        rw [hl, Z1.out] at h
        rcases h.2 with ⟨h1, h0⟩ | ⟨g, cap, cur, h1, _⟩
        · omega
        · exact ⟨_, cap, h1, h1 ▸ h, ⟨f, hr2⟩, B1.out.trans (hb.mono B1.out.size)⟩
      have hcN : ¬ ((c * size : Nat) : Int) < (N : Int) := by rw [HN.out]; omega
      generalize hfr : c * size = fr at *
      clear hgro HRow
      obtain ⟨a, cap, rfl, h1, h2, h3⟩ := HX.out
      have HY : Hid (wr.ownsRow (w.heap.size + 1) 22 1 (.slice a c cap) c (rowsL w.heap.size size c) ∧ (∃ f, wr.rowIs w.heap.size 5 N f) ∧ Below w.heap.size w wr) := ⟨h1, h2, h3⟩
      clear HX h1 h2 h3
      go_wp2
      go_ret
      exact ⟨a, cap, rfl, HY.out.1, HY.out.2.1, HY.out.2.2⟩
end Go.Proofs.YtianmmonkllhpaaDoor.L6
