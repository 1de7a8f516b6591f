/-
  Rows of texts: read, owned, grown by one. Shares as they are split.
-/
import Derived.Test.YtianmmonkllhpaaDoorNU
import Derived.Test.YtianmmonkllhpaaDoorSH
import Derived.Test.YtianmmonkllhpaaDoorKA
import Derived.Test.YtianmmonkllhpaaDoorJ2
namespace Go.Proofs.YtianmmonkllhpaaDoor.ST
open Go.RowKit
open Go.Proofs.YtianmmonkllhpaaDoor.C0 Go.Proofs.YtianmmonkllhpaaDoor.HB Go.Proofs.YtianmmonkllhpaaDoor.NU
open Go.Proofs.YtianmmonkllhpaaDoor.SH (Sh Shares OShares Wrote cp)
open Go.Proofs.YtianmmonkllhpaaDoor.K3 (bytesOf)
/-- A slice of texts that reads as l. -/
def Txts (w : World) (v : Value) (l : List ByteArray) : Prop :=
  ∃ (a : Option Addr) (cap : Nat), v = .slice a l.length cap ∧ l.length ≤ 100000 ∧
    (0 < l.length → ∃ b off, a = some ⟨b, off, none⟩ ∧ b < w.heap.size ∧ ∀ i, i < l.length → w.cell? ⟨b, off + i, none⟩ = some (.string (l.getD i ⟨#[]⟩)))
def OTxts (B : Nat) (w : World) (v : Value) (l : List ByteArray) : Prop := w.ownsRow B 9 1 v l.length (l.map Value.string)
theorem OTxts.txts {B : Nat} {w : World} {v : Value} {l : List ByteArray} (h : OTxts B w v l) (hl : l.length ≤ 100000) : Txts w v l := by
  have h' := h
  rcases h.2 with ⟨rfl, h0⟩ | ⟨g, cap, cur, rfl, hb, hg, hnc, hcm, hcs, htake⟩
  · exact ⟨none, 0, by rw [h0], by omega, fun q => by omega⟩
  · refine ⟨_, cap, rfl, hl, fun _ => ⟨g, 0, rfl, (Array.getElem?_eq_some_iff.1 hg).1, fun i hi => ?_⟩⟩
    have h3 := World.ownsRow.cells h' rfl i (.string (l.getD i ⟨#[]⟩)) (by simp [hi])
    rw [NU.add0] at h3
    exact h3
theorem Txts.keep {w w' : World} {v : Value} {l : List ByteArray} (h : Txts w v l) (hz : w.heap.size ≤ w'.heap.size) (hk : ∀ g, v.ownBlock = some g → g < w.heap.size → w'.heap[g]? = w.heap[g]?) : Txts w' v l := by
  obtain ⟨a, cap, rfl, hl, hc⟩ := h
  refine ⟨a, cap, rfl, hl, fun h0 => ?_⟩
  obtain ⟨b, off, rfl, hb, hcc⟩ := hc h0
  exact ⟨b, off, rfl, by omega, fun i hi => (World.cell?_of_block (w := w) (a := ⟨b, off + i, none⟩) (hk b rfl hb)).trans (hcc i hi)⟩
theorem Txts.below {w w' : World} {v : Value} {l : List ByteArray} (h : Txts w v l) (hb : Below w.heap.size w w') : Txts w' v l :=
  h.keep hb.size fun g _ hg => hb.block g hg
theorem Txts.grown {w w' : World} {v : Value} {l : List ByteArray} {row : Option Nat} (h : Txts w v l) (hg : w.grownBy w' row) (hr : ∀ g, v.ownBlock = some g → some g ≠ row) : Txts w' v l :=
  h.keep hg.size fun g hv hlt => hg.block g hlt (hr g hv)
theorem Txts.wrote {S : Nat → Prop} {w w' : World} {v : Value} {l : List ByteArray} (h : Txts w v l) (ht : Wrote S w w') (hS : ∀ g, v.ownBlock = some g → ¬ S g) : Txts w' v l :=
  h.keep ht.size fun g hv hlt => ht.block g hlt (hS g hv)
theorem OTxts.snoc {B : Nat} {w : World} {v : Value} {l : List ByteArray} {s : ByteArray} (h : w.ownsRow B 9 1 v (l.length + 1) (l.map Value.string ++ [.string s])) : OTxts B w v (l ++ [s]) := by
  unfold OTxts; simpa using h
theorem OShares.snoc {B : Nat} {w : World} {v : Value} {l : List Sh} {p : Sh} (h : w.ownsRow B 33 2 v (l.length + 1) (cp l ++ [.int .i64 p.1, .string p.2])) : OShares B w v (l ++ [p]) := by
  unfold OShares
  have e : cp (l ++ [p]) = cp l ++ [.int .i64 p.1, .string p.2] := by simp [cp]
  rw [e, List.length_append]
  exact h
theorem info_str : (Tryd.prog.info? 9).map (fun i => (i.zero, i.size, i.bytes)) = some (some (.string ⟨#[]⟩), 1, 16) := by kernel_rfl
theorem info_share : (Tryd.prog.info? 33).map (fun i => (i.zero, i.size, i.bytes)) = some (some (.agg #[.int .i64 0, .string ⟨#[]⟩]), 2, 24) := by kernel_rfl
theorem one_str (w : World) (s : ByteArray) (T : TypeId) : ∀ j u, [Value.string s][j]? = some u → (w.alloc (.cells #[.string s] T)).cell? ((⟨w.heap.size, 0, none⟩ : Addr).add j) = some u :=
  World.news_of_block (Go.Deep.blk_alloc_new _ _)
theorem one_share (w : World) (i : Int) (s : ByteArray) (T : TypeId) : ∀ j u, [Value.int .i64 i, .string s][j]? = some u → (w.alloc (.cells #[.int .i64 i, .string s] T)).cell? ((⟨w.heap.size, 0, none⟩ : Addr).add j) = some u :=
  World.news_of_block (Go.Deep.blk_alloc_new _ _)
theorem one_u8 (w : World) (y : Nat) (T : TypeId) : ∀ j u, [Value.int .u8 (y : Nat)][j]? = some u → (w.alloc (.cells #[.int .u8 (y : Nat)] T)).cell? ((⟨w.heap.size, 0, none⟩ : Addr).add j) = some u :=
  World.news_of_block (Go.Deep.blk_alloc_new _ _)
theorem one_i64 (w : World) (y : Nat) (T : TypeId) : ∀ j u, [Value.int .i64 (y : Nat)][j]? = some u → (w.alloc (.cells #[.int .i64 (y : Nat)] T)).cell? ((⟨w.heap.size, 0, none⟩ : Addr).add j) = some u :=
  World.news_of_block (Go.Deep.blk_alloc_new _ _)

/-! What is split. -/
/-- The text that hides, of the number j (from 0 on). -/
def maskT (salt : ByteArray) (j : Nat) : ByteArray := ⟨(Ms.mac (bytesOf salt) (Mb.putNum ((j + 1 : Nat) : Int))).toArray⟩
theorem maskT_size (salt : ByteArray) (j : Nat) : (maskT salt j).size = 32 := by unfold maskT; rw [KA.size_mk, Ms.mac_length]
def masks (salt : ByteArray) (m : Nat) : List ByteArray := (List.range m).map (maskT salt)
theorem masks_length (salt : ByteArray) (m : Nat) : (masks salt m).length = m := by simp [masks]
theorem masks_succ (salt : ByteArray) (m : Nat) : masks salt (m + 1) = masks salt m ++ [maskT salt m] := by simp [masks, List.range_succ]
theorem masks_at (salt : ByteArray) (m j : Nat) (h : j < m) : (masks salt m).getD j ⟨#[]⟩ = maskT salt j := by simp [masks, h]
/-- A byte of a text, as a number. -/
def byteN (s : ByteArray) (i : Nat) : Nat := (s.data.getD i 0).toNat
theorem byteN_lt (s : ByteArray) (i : Nat) : byteN s i < 256 := UInt8.toNat_lt _
theorem byteN_get (s : ByteArray) (i : Nat) (h : i < s.size) : (s[i]'h).toNat = byteN s i := by
  unfold byteN
  have h' : i < s.data.size := h
  rw [Array.getD_eq_getD_getElem?, Array.getElem?_eq_getElem h']; rfl
/-- A share's byte. -/
def shareN (secret salt : ByteArray) (m x i : Nat) : Nat := Gf.shB (byteN secret i) (fun j => byteN (maskT salt j) i) x m
theorem shB_lt (s : Nat) (ms : Nat → Nat) (x : Nat) (hs : s < 256) (hm : ∀ j, ms j < 256) : ∀ m, Gf.shB s ms x m < 256
  | 0 => hs
  | m + 1 => Gf.xor_lt (shB_lt s ms x hs hm m) (Gf.mul_lt _ (hm m))
theorem shareN_lt (secret salt : ByteArray) (m x i : Nat) : shareN secret salt m x i < 256 := shB_lt _ _ _ (byteN_lt _ _) (fun _ => byteN_lt _ _) _
theorem pX_lt (x : Nat) : ∀ j, Gf.pX x j < 256
  | 0 => by simp [Gf.pX]
  | j + 1 => Gf.mul_lt _ (pX_lt x j)
def shareL (secret salt : ByteArray) (m x : Nat) : List UInt8 := (List.range secret.size).map fun i => UInt8.ofNat (shareN secret salt m x i)
theorem shareL_length (secret salt : ByteArray) (m x : Nat) : (shareL secret salt m x).length = secret.size := by simp [shareL]
/-- The shares of a secret: so many, of so many masks. -/
def splitL (secret salt : ByteArray) (m cards : Nat) : List Sh := (List.range cards).map fun c => (((c + 1 : Nat) : Int), (⟨(shareL secret salt m (c + 1)).toArray⟩ : ByteArray))
theorem splitL_length (secret salt : ByteArray) (m c : Nat) : (splitL secret salt m c).length = c := by simp [splitL]
theorem splitL_succ (secret salt : ByteArray) (m c : Nat) : splitL secret salt m (c + 1) = splitL secret salt m c ++ [(((c + 1 : Nat) : Int), (⟨(shareL secret salt m (c + 1)).toArray⟩ : ByteArray))] := by simp [splitL, List.range_succ]
def splitOk (secret : ByteArray) (need cards : Int) (salt : ByteArray) : Bool :=
  decide (1 ≤ secret.size ∧ secret.size ≤ 16) && (decide (1 ≤ cards ∧ cards ≤ 6) && (decide (1 ≤ need ∧ need ≤ cards) && decide (1 ≤ salt.size ∧ salt.size ≤ 64)))
def splitR (secret : ByteArray) (need cards : Int) (salt : ByteArray) : List Sh := if splitOk secret need cards salt = true then splitL secret salt (need.toNat - 1) cards.toNat else []
end Go.Proofs.YtianmmonkllhpaaDoor.ST
