/-
  A drawn disk: the walk.
-/
import Derived.Test.YtoihhjdllcockaaE0
namespace Go.Proofs.Ytoihhjdllcockaa.D9
open Go.RowKit
open Go.Proofs.Ytoihhjdllcockaa.C0 Go.Proofs.Ytoihhjdllcockaa.D6 Go.Proofs.Ytoihhjdllcockaa.D7 Go.Proofs.Ytoihhjdllcockaa.D8 Go.Proofs.Ytoihhjdllcockaa.E0 Go.Proofs.Ytoihhjdllcockaa.S0 Go.Proofs.Ytoihhjdllcockaa.S1 Go.Proofs.Ytoihhjdllcockaa.S2 Go.Proofs.Ytoihhjdllcockaa.S4 Go.Proofs.Ytoihhjdllcockaa.O1 Go.Proofs.Ytoihhjdllcockaa.T2 Go.Proofs.Ytoihhjdllcockaa.T3 Go.Proofs.Ytoihhjdllcockaa.T4 Go.Proofs.Ytoihhjdllcockaa.T5
open Go.Proofs.Ytoihhjdllcockaa.Dk (Out writeR flushR rightB right_iff write_ok flush_ok new_right)
set_option maxRecDepth 100000 in
set_option maxHeartbeats 4000000 in
theorem l03Disk_any (B p n : Nat) (v : Value) (w : World) (h : Dr B p n v w) :
    Calls Try.prog 36 #[.pointer (some ⟨p, 0, none⟩)] w fun e w' => Drawn B p n v w e w' := by
  have hplt := h.lt
  go_enter Try.func36, Try.ntmps36
  go_wp2_with fail
  refine (drawN 9 (h.below (albel _ _)) (by omega) (by omega)).mono ?_
  rintro e w1 ⟨r1, rfl, hr1, h1, t1⟩
  have k1 := carryP (heap_alloc_new w _) t1 (by omega)
  have u1 : Wrote (only p) w w1 := (Wrote.of_below (albel _ _)).trans t1
  have hr1' : r1 < 9 := by omega
  obtain ⟨ss0, ps0, HR, hnew⟩ := new_some r1 hr1'
  clear t1
  go_wp2_with fail
  refine (hnew _).mono ?_
  rintro e w2 ⟨a, c, a', c', rfl, o2, hb2⟩
  have hz1 := lt_some k1
  have D2 : DS B p n v w w2.heap.size ss0 ps0 a c a' c' (w2.alloc (.cells #[.slice a ss0.length c, .slice a' ps0.length c'] 26)) :=
    ⟨heap_alloc_new _ _, (o2.mono (by omega)).below (albel _ _), carryA (carry k1 hb2) _, (h1.below hb2).below (albel _ _), trW (trW u1 hb2) (albel _ _), by have := hb2.size; omega, hplt⟩
  clear o2 hb2 h1 u1 k1 hz1 hnew
  go_wp2_with fail
  refine (drawN 9 D2.dr (by omega) (by omega)).mono ?_
  rintro e w3 ⟨r2, rfl, hr2, h3, t3⟩
  have H0 : Hid (RelD B p n v w w2.heap.size (.int .i64 (r2 : Nat)) w3) := ⟨r2, ss0, ps0, a, c, a', c', by omega, rfl, HR, D2.drawn h3 t3⟩
  clear D2 h3 t3 HR
  generalize w2.heap.size = L at *
  go_wp2
  go_loopw [4] (fun x wr => RelD B p n v w L x wr) (fun x _ => (intOf x).toNat)
  case atStart => exact H0.out
  case round =>
    clear H0
    obtain ⟨k, ss, ps, a, c, a', c', hk, rfl, HR, D⟩ := hrel
    by_cases hlt : 0 < k
    · have hlt' : (0 : Int) < (k : Int) := by omega
      obtain ⟨hz, hzp⟩ := small_sizes HR
      obtain ⟨q0, q1, -, q9⟩ := blk2 D.loc
      go_wp2
      go_cut [5] (fun s5 wx => RY B p n v w L ss ps a c a' c' s5 wx)
      case first =>
        have Y := DY.of D
        go_region_held3 (fun w' => w'.cell? ⟨L, 0, none⟩ = some (.slice a ss.length c) ∧ w'.cell? ⟨L, 1, none⟩ = some (.slice a' ps.length c'))
          (first
            | with_reducible exact keepL Y.ds
            | with_reducible exact keepL Y.ds.drew
            | with_reducible exact keepA Y _
            | with_reducible exact keepA Y.drew _
            | with_reducible exact keepL Y.lay.ds.drew
            | with_reducible exact keepS Y _ _ _ _
            | go_keep)
          (first
            | (go_at_call 37
               refine (yN (B := B) (p := p) (n := n) (v := v) (w0 := w) (L := L) (ss := ss) (ps := ps) (a := a) (c := c) (a' := a') (c' := c') (oy := ?_) _ ?hE (by omega) (by omega)).mono ?_
               case hE => first | exact Y | exact Y.lay | exact Y.drew | exact Y.lay.drew
               rintro e xn ⟨i, rfl, hi, Y⟩)
            | (go_at_call 39
               refine (yBytes (B := B) (p := p) (n := n) (v := v) (w0 := w) (L := L) (ss := ss) (ps := ps) (a := a) (c := c) (a' := a') (c' := c') (oy := ?_) _ ?hE (by omega)).mono ?_
               case hE => first | exact Y | exact Y.lay
               rintro e xb ⟨t, rfl, ht, Y⟩)
            | (go_at_call 17
               refine (yWrite (B := B) (p := p) (n := n) (v := v) (w0 := w) (L := L) (ss := ss) (ps := ps) (a := a) (c := c) (a' := a') (c' := c') (oy := ?_) _ _ ?hE HR (by omega) (by omega) (by omega)).mono ?_
               case hE => first | exact Y | exact Y.lay
               rintro e x4 ⟨o, f, d, f', d', rfl, o4, hr4, Y⟩
               first
                 | (obtain ⟨y0, y1, y2, y3, yf, y9⟩ := blk4 (DY.at Y))
                 | skip))
        · go_wp2_with fail
          go_meet
          case rel => exact RY.fresh Y o4 hr4
        · go_wp2_with fail
          go_meet
          case rel => exact RY.laid Y o4 hr4
        · go_wp2_with fail
          go_meet
          case rel => exact RY.laid Y o4 hr4
        · go_wp2_with fail
          go_meet
          case rel => exact RY.laid Y o4 hr4
        · go_wp2_with fail
          go_meet
          case rel => exact RY.laid Y o4 hr4
      case rest =>
        obtain ⟨Y, o, f, d, f', d', rfl, hY, hr, D', hne⟩ := hcut
        have Z : YD B p n v w L Y ss ps a c a' c' o f d f' d' wc := ⟨hY, hr, D', hne⟩
        clear q0 q1 q9 D hY hr D'
        go_wp2_with fail
        refine (drawOne 5 Z.ds.dr (by omega) (by omega)).mono ?_
        rintro e w5 ⟨bo, rfl, h5, t5⟩
        have Z5 := Z.drawn h5 t5
        clear Z h5 t5
        cases bo
        · by_cases hk0 : o.k = 0
          · have HN : Hid (RelD B p n v w L (.int .i64 ((k : Int) - 1)) ((w5.setCell ⟨L, 0, none⟩ (.slice f o.ss.length d)).setCell ⟨L, 1, none⟩ (.slice f' o.ps.length d'))) := next_round k hlt hk (Z5.hr hk0) (Z5.ds.take Z5.ys)
            obtain ⟨y0, y1, y2, y3, yf, y9⟩ := blk4 Z5.ys.loc
            obtain ⟨q0, q1, qf, q9⟩ := blk2 Z5.ds.loc
            go_wp2
            go_roundw
            case rel => exact HN.out
            case measure => simp [intOf]; omega
          · have HN : Hid (RelD B p n v w L (.int .i64 ((k : Int) - 1)) w5) := next_round k hlt hk HR Z5.ds
            obtain ⟨y0, y1, y2, y3, yf, y9⟩ := blk4 Z5.ys.loc
            obtain ⟨q0, q1, qf, q9⟩ := blk2 Z5.ds.loc
            go_wp2
            go_roundw
            case rel => exact HN.out
            case measure => simp [intOf]; omega
        · obtain ⟨q0, q1, qf, q9⟩ := blk2 Z5.ds.loc
          go_wp2_with fail
          refine (TB.flush_spec _ _ ss ps w5 Z5.ds.own.1.strs Z5.ds.own.2.pends hz hzp).mono ?_
          have hfr := flush_right (ss := ss) (ps := ps)
          generalize flushR ss ps = o2 at hfr ⊢
          rintro e w6 ⟨g, e1, g', e1', rfl, o6, hb6⟩
          have Z6 := Z5.put hb6 o6 hfr
          have kY := carry Z5.ys.loc hb6
          have kL := carry Z5.ds.loc hb6
          have hYL := Z5.ne
          clear q0 q1 qf q9 Z5 hfr hb6 o6
          by_cases hk0 : o2.k = 0
          · have HN : Hid (RelD B p n v w L (.int .i64 ((k : Int) - 1)) (((set4 w6 Y (.slice g o2.ss.length e1) (.slice g' o2.ps.length e1') (.string o2.d) (.int .i64 o2.k)).setCell ⟨L, 0, none⟩ (.slice g o2.ss.length e1)).setCell ⟨L, 1, none⟩ (.slice g' o2.ps.length e1'))) := next_round k hlt hk (Z6.hr hk0) (Z6.ds.take Z6.ys)
            obtain ⟨y0, y1, y2, y3, yf, y9⟩ := blk4 kY
            obtain ⟨q0, q1, qf, q9⟩ := blk2 kL
            clear Z6 kY kL
            go_wp2
            go_roundw
            case rel => simpa [hk0] using HN.out
            case measure => simp [intOf]; omega
          · have HN : Hid (RelD B p n v w L (.int .i64 ((k : Int) - 1)) (set4 w6 Y (.slice g o2.ss.length e1) (.slice g' o2.ps.length e1') (.string o2.d) (.int .i64 o2.k))) := next_round k hlt hk HR Z6.ds
            obtain ⟨y0, y1, y2, y3, yf, y9⟩ := blk4 kY
            obtain ⟨q0, q1, qf, q9⟩ := blk2 kL
            clear Z6 kY kL
            go_wp2
            go_roundw
            case rel => exact HN.out
            case measure => simp [intOf]; omega
    · obtain rfl : k = 0 := by omega
      have F0 : FD B p n v w L ss ps a c a' c' wr := FD.of D HR
      clear D hk hlt
      go_wp2_with fail
      refine (drawOne 15 F0.ds.dr (by omega) (by omega)).mono ?_
      rintro e w5 ⟨bo, rfl, h5, t5⟩
      have F5 := F0.drawn h5 t5
      clear F0 h5 t5
      go_upto_if 34 with fail
      go_cut [] (fun wx => RF B p n v w L wx)
      case first =>
        cases bo
        · go_wp2_with fail
          go_meet
          case rel => exact F5.rf
        · go_wp2_with fail
          refine (drawN 4 F5.ds.dr (by omega) (by omega)).mono ?_
          rintro e w7 ⟨r, rfl, hr, h7, t7⟩
          have F7 := F5.drawn h7 t7
          clear F5 h7 t7
          obtain ⟨q0, q1, qf, q9⟩ := blk2 F7.ds.loc
          obtain rfl | rfl | rfl | rfl : r = 0 ∨ r = 1 ∨ r = 2 ∨ r = 3 := by omega
          · have HN : Hid (RF B p n v w L (w7.setCell ⟨L, 0, none⟩ (.slice none 0 0))) := F7.strike.rf
            go_wp2
            go_meet
            case rel => exact HN.out
          · have HE : Hid ((w7.alloc (.cells #[.int .i64 (ss.length : Nat), .string ⟨#[]⟩] 46)).heap[w7.heap.size]? = some (.cells #[.int .i64 (ss.length : Nat), .string ⟨#[]⟩] 46)) := heap_alloc_new w7 _
            have hown := (F7.ds.own.below (albel w7 (.cells #[.int .i64 (ss.length : Nat), .string ⟨#[]⟩] 46))).2
            have hps : ps.length < 201 := by have := ((right_iff ss ps).1 HR).2.2.1; omega
            have hzw : Hid (w.heap.size ≤ w7.heap.size) := F7.ds.wr.size
            obtain ⟨j0, hj, hy0, hy1, hy2⟩ := info_parts info_pend
            go_wp2_with (first
              | (at_builtin; refine wpList_append_lies _ rfl _ _ 24 rfl w.heap.size 46 j0 (.agg #[.int .i64 0, .string ⟨#[]⟩]) 2 24 Try.underlying24 hj hy0 hy1 hy2 rfl (by decide) _ ps.length (cp ps) rfl hown ⟨w7.heap.size, 0, none⟩ 1 1 [.int .i64 (ss.length : Nat), .string ⟨#[]⟩] rfl rfl (World.news_of_block HE.out) (by intro u hu; simp at hu; rcases hu with rfl | rfl <;> rfl) (by decide) (by unfold maxLen; omega) (by omega) (by simp; have := hzw.out; omega) _ rfl ?_; intro g cap w8 hown8 hg8 hat8 hlt8
                 obtain ⟨t0, t1, tf, t9⟩ := blk2 (F7.at (albel w7 _) hg8)))
            have HN : Hid (RF B p n v w L (w8.setCell ⟨L, 1, none⟩ (.slice (some ⟨g, 0, none⟩) (ps.length + 1) cap))) := (F7.more (albel w7 _) hown8 hg8 hat8 hps (by decide)).rf
            go_meet
            case rel => exact HN.out
          · obtain ⟨g, rfl, -, hBg, hgz⟩ := form_strs F7.ds.own.1 (by have := ((right_iff ss ps).1 HR).1; omega)
            have h0 : 0 < ss.length := by have := ((right_iff ss ps).1 HR).1; omega
            go_upto_region 19 with fail
            go_region_with
              (first
                | (go_at_call 37
                   refine (fN (B := B) (p := p) (n := n) (v := v) (w0 := w) (L := L) (ss := ss) (ps := ps) (a := some ⟨g, 0, none⟩) (c := c) (a' := a') (c' := c') _ ?hE (by omega) (by omega)).mono ?_
                   case hE => first | exact F7 | exact F7.drew
                   rintro e w8 ⟨r4, rfl, hr4, F7⟩
                   have hw4 : IntKind.i64.wrap (64 + (r4 : Int)) = 64 + (r4 : Int) := wrap64 r4 hr4
                   obtain ⟨t0, t1, tf, t9⟩ := blk2 F7.ds.loc
                   obtain ⟨v0, v1, vf, v9⟩ := blk2 (carryA F7.ds.loc (zer r4))
                   have hm4 := madeZ r4 hr4 w8
                   have hc4 := convZ r4 w8
                   obtain ⟨⟨o4, ho4⟩, hf4⟩ := own_cell_s (F7.ds.own.below (albel w8 (zer r4))).1 0 h0))
            all_goals
              have HN : Hid (RF B p n v w L ((w8.alloc (zer r4)).setCell ⟨g, 0, none⟩ (.string (zt r4)))) := (FD.other _ (F7.below (albel _ _)) (by rw [zt_size]; unfold maxLen; omega)).rf
              go_wp2_with fail
              go_meet
              exact HN.out
          · have H0 : Hid (RF B p n v w L w7) := F7.rf
            clear F7 q0 q1 qf q9 HR
            go_wp2_with fail
            go_loopw [] (fun wr => RF B p n v w L wr) (fun wr => 201 - lenAt wr L)
            case atStart => exact H0.out
            case round =>
              clear H0
              obtain ⟨ss, ps, a, c, a', c', F⟩ := hrel
              have hm0 : Hid (lenAt wr L = ps.length) := lenAt_of (keepL F.ds).2
              go_wp2_with fail
              go_region_held3 (fun w' => w'.cell? ⟨L, 0, none⟩ = some (.slice a ss.length c) ∧ w'.cell? ⟨L, 1, none⟩ = some (.slice a' ps.length c'))
                (first
                  | with_reducible exact keepL F.ds
                  | with_reducible exact keepL F.ds.drew)
                (first
                  | (go_at_call 37
                     refine (fN (B := B) (p := p) (n := n) (v := v) (w0 := w) (L := L) (ss := ss) (ps := ps) (a := a) (c := c) (a' := a') (c' := c') _ ?hE (by omega) (by omega)).mono ?_
                     case hE => first | exact F | exact F.drew
                     rintro e w8 ⟨r4, rfl, hr4, F⟩
                     have hw4 := wrap199 r4 hr4))
              by_cases hl : (ps.length : Int) < 199 + (r4 : Int)
              · have HE : Hid ((w8.alloc (.cells #[.int .i64 0, .string ⟨#[]⟩] 46)).heap[w8.heap.size]? = some (.cells #[.int .i64 0, .string ⟨#[]⟩] 46)) := heap_alloc_new w8 _
                have hown := (F.ds.own.below (albel w8 (.cells #[.int .i64 0, .string ⟨#[]⟩] 46))).2
                have hps : ps.length < 201 := by omega
                have hzw : Hid (w.heap.size ≤ w8.heap.size) := F.ds.wr.size
                obtain ⟨q0, q1, qf, q9⟩ := blk2 F.ds.loc
                obtain ⟨j0, hj, hy0, hy1, hy2⟩ := info_parts info_pend
                go_wp2_with (first
                  | (at_builtin; refine wpList_append_lies _ rfl _ _ 24 rfl w.heap.size 46 j0 (.agg #[.int .i64 0, .string ⟨#[]⟩]) 2 24 Try.underlying24 hj hy0 hy1 hy2 rfl (by decide) _ ps.length (cp ps) rfl hown ⟨w8.heap.size, 0, none⟩ 1 1 [.int .i64 0, .string ⟨#[]⟩] rfl rfl (World.news_of_block HE.out) (by intro u hu; simp at hu; rcases hu with rfl | rfl <;> rfl) (by decide) (by unfold maxLen; omega) (by omega) (by simp; have := hzw.out; omega) _ rfl ?_; intro g cap w9 hown9 hg9 hat9 hlt9
                     obtain ⟨t0, t1, tf, t9⟩ := blk2 (F.at (albel w8 _) hg9)))
                have F9 := F.more (albel w8 _) hown9 hg9 hat9 hps (by decide)
                have HN : Hid (RF B p n v w L (w9.setCell ⟨L, 1, none⟩ (.slice (some ⟨g, 0, none⟩) (ps.length + 1) cap))) := F9.rf
                have hm1 : lenAt (w9.setCell ⟨L, 1, none⟩ (.slice (some ⟨g, 0, none⟩) (ps.length + 1) cap)) L = ps.length + 1 := by
                  rw [lenAt_of (keepL F9.ds).2]; simp
                go_roundw
                case rel => exact HN.out
                case measure => rw [hm1, hm0.out]; omega
              · have HN : Hid (RF B p n v w L w8) := F.rf
                go_wp2
                go_meet
                case rel => exact HN.out
      case rest =>
        obtain ⟨ss, ps, a, c, a', c', F⟩ := hcut
        have HF : Hid (Drawn B p n v w (.returned (.agg #[.slice a ss.length c, .slice a' ps.length c'])) ((wc.setCell ⟨w.heap.size, 0, none⟩ (.slice a ss.length c)).setCell ⟨w.heap.size, 1, none⟩ (.slice a' ps.length c'))) := F.told
        obtain ⟨q0, q1, qf, q9⟩ := blk2 F.ds.loc
        obtain ⟨r0, r1, rf, r9⟩ := blk2 F.ds.res
        go_wp2
        exact bodyPost_ret (v := .agg #[.slice a ss.length c, .slice a' ps.length c']) (by simp [results, Try.results36, go_sem, r0, r1]) rfl HF.out
end Go.Proofs.Ytoihhjdllcockaa.D9
