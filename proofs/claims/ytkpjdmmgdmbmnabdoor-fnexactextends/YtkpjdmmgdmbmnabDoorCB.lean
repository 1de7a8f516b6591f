/-
  A row of bytes of the call's own, also one that was made of a text (its mark lies behind its end): append onto it, text of it.
-/
import Derived.Test.YtkpjdmmgdmbmnabDoorC9
import Derived.ArgAppend
import Derived.Deep.MidRow
namespace Go.Proofs.YtkpjdmmgdmbmnabDoor.CB
open Go.RowKit
open Go.Proofs.YtkpjdmmgdmbmnabDoor.C0
open Go.Deep (blk_alloc_lt blk_alloc_new nblk_alloc)

def has (base : Nat) (v : Value) (l : List UInt8) (w : World) : Prop :=
  ∃ b cap, v = .slice (some ⟨b, 0, none⟩) l.length cap ∧ base ≤ b ∧ b < w.heap.size ∧ l.length ≤ cap ∧ (∀ j (hj : j < l.length), w.cell? ⟨b, j, none⟩ = some (.int .u8 (l[j].toNat : Int))) ∧
    (∀ j, j < cap → (w.cell? ⟨b, j, none⟩).isSome = true ∧ w.frozen? ⟨b, j, none⟩ = false)

theorem has.below {base : Nat} {v : Value} {l : List UInt8} {w w' : World} (h : has base v l w) (hb : Below w.heap.size w w') : has base v l w' := by
  obtain ⟨b, cap, h1, h2, h3, h4, h5, h6⟩ := h
  refine ⟨b, cap, h1, h2, Nat.lt_of_lt_of_le h3 hb.size, h4, fun j hj => ?_, fun j hj => ?_⟩
  · rw [hb.cell (p := ⟨b, j, none⟩) h3]; exact h5 j hj
  · rw [hb.cell (p := ⟨b, j, none⟩) h3, hb.frozen (p := ⟨b, j, none⟩) h3]; exact h6 j hj

theorem has.alloc {base : Nat} {v : Value} {l : List UInt8} {w : World} (h : has base v l w) (o : Obj) : has base v l (w.alloc o) := h.below ((Below.refl _ _).alloc (Nat.le_refl _) _)

theorem has.form {base : Nat} {v : Value} {l : List UInt8} {w : World} (h : has base v l w) : ∃ b cap, v = .slice (some ⟨b, 0, none⟩) l.length cap := by
  obtain ⟨b, cap, h1, _⟩ := h
  exact ⟨b, cap, h1⟩
theorem has.drew {base : Nat} {v : Value} {l : List UInt8} {w : World} (h : has base v l w) : has base v l w.drew := h
theorem has_of_owns {base n : Nat} {v : Value} {l : List UInt8} {w : World} (hn : l.length = n) (h0 : 0 < n) (h : w.ownsRow base 5 1 v n ((Mb.cells l).map (Value.int .u8))) : has base v l w := by
  subst hn
  rcases h.2 with ⟨_, h1⟩ | ⟨g, cap, cur, h1, h2, h3, h4, h5, h6, h7⟩
  · omega
  · have hl : g < w.heap.size := (Array.getElem?_eq_some_iff.1 h3).1
    refine ⟨g, cap, h1, h2, hl, h4, fun j hj => ?_, fun j hj => ?_⟩
    · have hc := World.ownsRow.cells h (by rw [h1]; rfl) j _ (cell_of l j hj)
      have ha : (⟨g, 0, none⟩ : Addr).add j = ⟨g, j, none⟩ := by unfold Addr.add; split <;> simp_all
      rw [ha] at hc
      exact hc
    · have hjs : j < cur.size := by omega
      constructor
      · simp [World.cell?, h3, hjs]
      · simp [World.frozen?, h3]

/-- string(b). -/
theorem conv_has {base : Nat} {v : Value} {l : List UInt8} {w : World} (h : has base v l w) : (convert 64 9 v).run Tryd.prog w = .ok (.string ⟨l.toArray⟩) w := by
  obtain ⟨b, cap, rfl, h2, h3, h4, h5, h6⟩ := h
  refine run_convert_bytes_back w 64 9 5 _ cap l Tryd.underlying64 Tryd.underlying5 Tryd.underlying9 ?_
  intro j hj
  have ha : (⟨b, 0, none⟩ : Addr).add j = ⟨b, j, none⟩ := by unfold Addr.add; split <;> simp_all
  rw [ha]; exact h5 j hj

theorem below_cells {B b : Nat} {a : World} (hb : B ≤ b) : ∀ (vs : List Value) (o : Nat) (w : World), Below B a w → Below B a (w.setCells b o vs)
  | [], _, _, h => h
  | v :: vs, o, w, h => below_cells hb vs (o + 1) _ (h.setCell (by exact hb) v)
theorem size_cells (b : Nat) : ∀ (vs : List Value) (o : Nat) (w : World), (w.setCells b o vs).heap.size = w.heap.size
  | [], _, _ => rfl
  | v :: vs, o, w => by
    show ((w.setCell ⟨b, o, none⟩ v).setCells b (o + 1) vs).heap.size = _
    rw [size_cells b vs (o + 1) _]; simp

/-- append(b, news..). -/
theorem wpList_append_has {w : World} {ops : Array Oper} {rest : List Oper} {o : Oper} {a : Act} {Q : Exit → Act → World → Prop}
    (hg : o.guard = none) (s x : Operand) (hop : o.op = Op.call { callee := Callee.builtin Builtin.append, args := #[s, x], argTypes := #[64, 64] })
    (base : Nat) (w0 : World) (v : Value) (l : List UInt8) (hs : a.eval s = v) (hh : has base v l w) (hbel : Below base w0 w) (hbase : base ≤ w.heap.size)
    (ad : Addr) (m c : Nat) (news : List UInt8) (hx : a.eval x = .slice (some ad) m c) (hn : news.length = m) (hc : ∀ j u, ((Mb.cells news).map (Value.int .u8))[j]? = some u → w.cell? (ad.add j) = some u) (hm : 0 < m) (hle : l.length + m ≤ 100000)
    (hK : ∀ v' w', has base v' (l ++ news) w' → Below base w0 w' → base ≤ w'.heap.size → wpList Tryd.prog ops Q rest (a.put o.dst v') w') : wpList Tryd.prog ops Q (o :: rest) a w := by
  obtain ⟨i0, hi, hz0, hz1, hz2⟩ := info_parts info_u8
  obtain ⟨b, cap, rfl, h2, h3, h4, h5, h6⟩ := hh
  subst hn
  have hnl : ((Mb.cells news).map (Value.int .u8)).length = news.length := by simp [Mb.cells]
  have hll : ((Mb.cells l).map (Value.int .u8)).length = l.length := by simp [Mb.cells]
  have hold : ∀ j u, ((Mb.cells l).map (Value.int .u8))[j]? = some u → w.cell? ⟨b, 0 + j, none⟩ = some u := by
    intro j u hj
    have hjl : j < l.length := by have := (List.getElem?_eq_some_iff.1 hj).1; omega
    rw [cell_of l j hjl] at hj
    rw [Nat.zero_add, h5 j hjl, ← hj]
  refine wpList_append_arg w hg s x 64 hop 5 i0 (.int .u8 0) 1 1 Tryd.underlying64 hi hz0 hz1 hz2 rfl (by decide) b 0 l.length cap _ hs (by rw [hll, Nat.mul_one]) hold ad news.length c _ hx (by rw [hnl, Nat.mul_one]) hc (fun u hu => ?_) (fun hr j hj => ?_) (by unfold maxLen; omega) (by omega) (fun hr => ?_) (fun _ v' w' hw1 hw2 => ?_)
  · simp [Mb.cells] at hu; obtain ⟨x, _, rfl⟩ := hu; rfl
  · rw [hnl] at hj
    rw [show 0 + l.length * 1 + j = l.length + j by omega]
    exact h6 _ (by omega)
  · have hthere : ∀ j, j < ((Mb.cells news).map (Value.int .u8)).length → (w.cell? ⟨b, 0 + l.length * 1 + j, none⟩).isSome = true := fun j hj => by
      rw [show 0 + l.length * 1 + j = l.length + j by omega]; exact (h6 _ (by omega)).1
    refine hK _ _ ⟨b, cap, by rw [List.length_append], h2, by rw [size_cells]; exact h3, by rw [List.length_append]; exact hr, fun j hj => ?_, fun j hj => ?_⟩ (below_cells h2 _ _ _ hbel) (by rw [size_cells]; exact hbase)
    · rcases Nat.lt_or_ge j l.length with h | h
      · rw [World.cell?_setCells_out b _ _ _ _ (fun _ _ => .inl (by show j < 0 + l.length * 1; omega)), h5 j h, List.getElem_append_left h]
      · obtain ⟨q, rfl⟩ : ∃ q, j = l.length + q := ⟨j - l.length, by omega⟩
        have hq : q < news.length := by rw [List.length_append] at hj; omega
        have := World.cell?_setCells_in b _ (0 + l.length * 1) w hthere q (by rw [hnl]; exact hq)
        rw [show 0 + l.length * 1 + q = l.length + q by omega] at this
        rw [this, List.getElem_append_right (by omega)]
        simp [Mb.cells]
    · rw [World.frozen?_setCells]
      exact ⟨World.isSome_setCells b _ _ _ _ (h6 j hj).1, (h6 j hj).2⟩
  · refine hK _ _ (has_of_owns (n := l.length + news.length) (by rw [List.length_append]) (by omega) ?_) (hbel.grown hw2 hbase (fun k hk => by cases hk)) (Nat.le_trans hbase hw2.size)
    have e : (Mb.cells (l ++ news)).map (Value.int .u8) = (Mb.cells l).map (Value.int .u8) ++ (Mb.cells news).map (Value.int .u8) := by simp [Mb.cells]
    rw [e]
    refine ⟨hw1.1, ?_⟩
    rcases hw1.2 with h0 | ⟨g, cap', cur, q1, q2, q3⟩
    · exact .inl h0
    · exact .inr ⟨g, cap', cur, q1, Nat.le_trans hbase q2, q3⟩

/-- []byte(s). -/
theorem has_bytes (w : World) (s : ByteArray) (cap : Nat) (hcap : s.size ≤ cap) :
    has w.heap.size (.slice (some ⟨w.heap.size, 0, none⟩) s.size cap) s.data.toList (w.alloc (.cells (bytesRow s cap) 5 ((bytesRow s cap).size, (bytesRow s cap).size + 1))) := by
  have hsz : (bytesRow s cap).size = cap := by simp [bytesRow]; omega
  refine ⟨w.heap.size, cap, by simp, Nat.le_refl _, by rw [nblk_alloc]; omega, by simpa using hcap, fun j hj => ?_, fun j hj => ⟨?_, ?_⟩⟩
  · rw [World.cell?_alloc_mark, bytesRow_at _ _ _ (by simpa using hj)]
    simp
  · rw [World.cell?_alloc_mark]
    simp [hsz, hj]
  · rw [World.frozen?_alloc_mark, hsz]
    simp; omega
end Go.Proofs.YtkpjdmmgdmbmnabDoor.CB
