/- The walk of the law BagTakes. -/
import Derived.Test.YtkfebgbgnpdgpaaBgU
import Derived.OwnWalk
namespace Go.Proofs.Ytkfebgbgnpdgpaa
open Go.RowKit Go.Shelf
set_option maxRecDepth 100000

theorem info_bool7 : (Try.prog.info? 4).map (fun i => (i.zero, i.size, i.bytes)) = some (some (.bool false), 1, 1) := by kernel_rfl

set_option maxHeartbeats 3200000 in
theorem bTakes_any (W : World) (v : Value) (l : List Mg) (hl : M3sAt W v l) (pv : Value) (zs : List Int) (hz : IntsAt W pv zs) (tt : Int) : Calls Try.prog 3 #[v, pv, .int .i64 tt] W fun e W' => e = .returned (.bool true) ∧ Keeps [] W W' := by
  obtain ⟨a, cap, rfl, h1, -, -, h3⟩ := hl
  obtain ⟨pa, pcap, rfl, g1, -, -, gb, g3⟩ := hz
  have H3 := hid h3
  have G3 := hid g3
  have GB := hid gb
  obtain ⟨ib, hib, hzb, hsb, hbb⟩ := info_parts info_bool7
  clear h3 g3 gb
  go_enter Try.func3, Try.ntmps3
  go_wp2_with fail
  refine (bAwake_any W).mono ?_
  rintro e w1 ⟨rfl, k1⟩
  have K1 := hid k1
  clear k1
  by_cases hbig : (64 : Int) < l.length
  · go_wp2_with fail
    go_ret
    exact ⟨rfl, K1.out⟩
  by_cases hbig2 : (200 : Int) < zs.length
  · go_wp2_with fail
    go_ret
    exact ⟨rfl, K1.out⟩
  have hl64 : l.length ≤ 64 := by omega
  have hz200 : zs.length ≤ 200 := by omega
  go_wp2_with fail
  refine (bNew_any w1 64 (by constructor <;> decide)).mono ?_
  rintro e w2 (⟨hno, _⟩ | ⟨_, p, hp, rfl, Hb, k2⟩)
  · exact absurd ⟨by decide, by decide⟩ hno
  have HB := hid Hb
  have K2 := hid (K1.out.trans k2)
  have HP := hid (show W.heap.size ≤ p by have := K1.out.size; omega)
  clear Hb k2 hp
  go_wp2_with fail
  go_loopw [10] (fun iv wr => ∃ (k : Nat) (F : List Nat) (ms : List Mg), k ≤ l.length ∧ iv = .int .i64 k ∧ BagF 75 33 wr p F 64 ms ∧ ms.map con = (List.range k).map (tg l) ∧ (∀ b ∈ F, W.heap.size ≤ b) ∧ Keeps [] W wr) (fun iv _ => l.length - (intOf iv).toNat)
  case atStart => exact ⟨0, _, [], by omega, rfl, ⟨[], _, HB.out, rfl⟩, rfl, fun b hb => by
    rcases mem_bfoot.1 hb with h | h | h
    · rw [h]; exact HP.out
    · simp [Value.ownBlock] at h
    · simp at h, K2.out⟩
  case round =>
    obtain ⟨k, F, ms, hk, rfl, hb, hcon, hnF, kk⟩ := hrel
    have B := hid hb
    have CON := hid hcon
    have NF := hid hnF
    have KK := hid kk
    have LN : Hid (ms.length = k) := hid (by simpa using congrArg List.length hcon)
    clear hb hcon hnF kk
    by_cases hlt : k < l.length
    · obtain ⟨g, off, ha, hd⟩ := H3.out (by intro e; rw [e] at hlt; simp at hlt)
      subst ha
      have D0 := hid (hd k hlt)
      have D := (hd k hlt).keep KK.out
      have c1 := D.c1
      have c2 := D.c2
      obtain ⟨ra, rc, hrow, -⟩ := D.inn.row
      have HROW := hid hrow
      rw [hrow] at c2
      have hgl : g < W.heap.size := World.block_lt_of_cell? _ _ D0.out.c1
      have ngF : Hid (g ∉ F) := hid (fun h => by have := NF.out g h; omega)
      have hglw : g < wr.heap.size := World.block_lt_of_cell? _ _ D.c1
      have hfit := D.inn.fit
      clear hd D hrow
      by_cases hl : (100 : Int) < (l[k].bs.length : Int)
      · go_wp2_with fail
        go_ret
        exact ⟨rfl, KK.out⟩
      have hl1 : l[k].bs.length ≤ 100 := by omega
      go_wp2_with fail
      refine wp_region_any (by kernel_rfl) (wpAny_of_held (S := KpS F wr.heap.size wr.drew) _ _ _ _ ?_)
      change wpAnyH _ _ _ _ _ _ _ _ wr.drew
      have q1 : ∀ W1, KpS F wr.heap.size wr.drew W1 → W1.cell? ⟨g, off + k * 3 + 1, none⟩ = some (.int .i64 l[k].t) := fun W1 h => h.cell (by rw [World.cell?_drew]; exact c1) hglw ngF.out
      have q2 : ∀ W1, KpS F wr.heap.size wr.drew W1 → W1.cell? ⟨g, off + k * 3 + 2, none⟩ = some (.slice ra l[k].bs.length rc) := fun W1 h => h.cell (by rw [World.cell?_drew]; exact c2) hglw ngF.out
      refine held_take (i := 0) (v := .pointer (some ⟨p, 0, none⟩)) rfl (by kernel_rfl) (by kernel_rfl) (by kernel_rfl) (fun _ _ _ h => h) rfl (fun W1 hW1 => rfl) (KpS.refl _ _ _) ?_
      simp only [Act.put, List.setIfInBounds_toArray, List.set_cons_zero, List.set_cons_succ]
      refine held_take (i := 1) (v := .int .i64 k) rfl (by kernel_rfl) (by kernel_rfl) (by kernel_rfl) (fun _ _ _ h => h) rfl (fun W1 hW1 => rfl) (KpS.refl _ _ _) ?_
      simp only [Act.put, List.setIfInBounds_toArray, List.set_cons_zero, List.set_cons_succ]
      refine held_take (i := 2) (v := .slice (some ⟨g, off, none⟩) l.length cap) rfl (by kernel_rfl) (by kernel_rfl) (by kernel_rfl) (fun _ _ _ h => h) rfl (fun W1 hW1 => rfl) (KpS.refl _ _ _) ?_
      simp only [Act.put, List.setIfInBounds_toArray, List.set_cons_zero, List.set_cons_succ]
      refine held_take (i := 3) (v := .int .i64 k) rfl (by kernel_rfl) (by kernel_rfl) (by kernel_rfl) (fun _ _ _ h => h) rfl (fun W1 hW1 => rfl) (KpS.refl _ _ _) ?_
      simp only [Act.put, List.setIfInBounds_toArray, List.set_cons_zero, List.set_cons_succ]
      refine held_take (i := 4) (v := .pointer (some ⟨g, off + k * 3, none⟩)) rfl (by kernel_rfl) (by kernel_rfl) (by kernel_rfl) (fun _ _ _ h => h) rfl (fun W1 hW1 => by go_simp) (KpS.refl _ _ _) ?_
      simp only [Act.put, List.setIfInBounds_toArray, List.set_cons_zero, List.set_cons_succ]
      refine held_take (i := 5) (v := .pointer (some ⟨g, off + k * 3 + 1, none⟩)) rfl (by kernel_rfl) (by kernel_rfl) (by kernel_rfl) (fun _ _ _ h => h) rfl (fun W1 hW1 => by go_simp) (KpS.refl _ _ _) ?_
      simp only [Act.put, List.setIfInBounds_toArray, List.set_cons_zero, List.set_cons_succ]
      refine held_take (i := 6) (v := .int .i64 l[k].t) rfl (by kernel_rfl) (by kernel_rfl) (by kernel_rfl) (fun _ _ _ h => h) rfl (fun W1 hW1 => exec_load _ _ _ _ rfl rfl (run_loadCell W1 _ _ _ (q1 W1 hW1) (agg_no _ (by kernel_rfl)))) (KpS.refl _ _ _) ?_
      simp only [Act.put, List.setIfInBounds_toArray, List.set_cons_zero, List.set_cons_succ]
      refine held_take (i := 7) (v := .slice (some ⟨g, off, none⟩) l.length cap) rfl (by kernel_rfl) (by kernel_rfl) (by kernel_rfl) (fun _ _ _ h => h) rfl (fun W1 hW1 => rfl) (KpS.refl _ _ _) ?_
      simp only [Act.put, List.setIfInBounds_toArray, List.set_cons_zero, List.set_cons_succ]
      refine held_take (i := 8) (v := .int .i64 k) rfl (by kernel_rfl) (by kernel_rfl) (by kernel_rfl) (fun _ _ _ h => h) rfl (fun W1 hW1 => rfl) (KpS.refl _ _ _) ?_
      simp only [Act.put, List.setIfInBounds_toArray, List.set_cons_zero, List.set_cons_succ]
      refine held_take (i := 9) (v := .pointer (some ⟨g, off + k * 3, none⟩)) rfl (by kernel_rfl) (by kernel_rfl) (by kernel_rfl) (fun _ _ _ h => h) rfl (fun W1 hW1 => by go_simp) (KpS.refl _ _ _) ?_
      simp only [Act.put, List.setIfInBounds_toArray, List.set_cons_zero, List.set_cons_succ]
      refine held_take (i := 10) (v := .pointer (some ⟨g, off + k * 3 + 2, none⟩)) rfl (by kernel_rfl) (by kernel_rfl) (by kernel_rfl) (fun _ _ _ h => h) rfl (fun W1 hW1 => by go_simp) (KpS.refl _ _ _) ?_
      simp only [Act.put, List.setIfInBounds_toArray, List.set_cons_zero, List.set_cons_succ]
      refine held_take (i := 11) (v := .slice ra l[k].bs.length rc) rfl (by kernel_rfl) (by kernel_rfl) (by kernel_rfl) (fun _ _ _ h => h) rfl (fun W1 hW1 => exec_load _ _ _ _ rfl rfl (run_loadCell W1 _ _ _ (q2 W1 hW1) (agg_no _ (by kernel_rfl)))) (KpS.refl _ _ _) ?_
      simp only [Act.put, List.setIfInBounds_toArray, List.set_cons_zero, List.set_cons_succ]
      refine held_take (i := 12) (v := .agg #[.int .i64 k, .int .i64 l[k].t, .slice ra l[k].bs.length rc]) rfl (by kernel_rfl) (by kernel_rfl) (by kernel_rfl) (fun _ _ _ h => h) rfl (fun W1 hW1 => by go_simp) (KpS.refl _ _ _) ?_
      simp only [Act.put, List.setIfInBounds_toArray, List.set_cons_zero, List.set_cons_succ]
      have OKM : MgOk wr.drew (List.range wr.drew.heap.size) ⟨(k : Int), l[k].t, .slice ra l[k].bs.length rc, l[k].bs⟩ := by
        have h := (D0.out.inn.keep KK.out.drew).ok hl1
        exact ⟨by have := h.row; rw [HROW.out] at this; exact this, by have := h.inn; rw [HROW.out] at this; exact this, hl1, ⟨by show (-9223372036854775808 : Int) ≤ (k : Int); omega, by show (k : Int) ≤ 9223372036854775807; omega⟩, h.b1⟩
      have BP := bPutF (B.out.later (Keeps.refl [] wr).drew) _ _ OKM
      simp only [mgV] at BP
      refine held_do (i := 13) (by kernel_rfl) rfl rfl (wp_enter (f := 12) (args := #[.pointer (some ⟨p, 0, none⟩), .agg #[.int .i64 k, .int .i64 l[k].t, .slice ra l[k].bs.length rc]]) (by go_simp) (BP) ?_)
      rintro e w4 (⟨hf1, _⟩ | ⟨hf1, rfl, F1, m1, b1, hm1, kB, fB⟩)
      · exact absurd hf1 (by have := LN.out; omega)
      have s4 : KpS F wr.heap.size wr.drew w4 := (KpS.refl _ _ _).keeps kB (Nat.le_refl _) (fun i hi _ => hi)
      refine ⟨_, rfl, s4, ?_⟩
      simp only [Act.put, List.setIfInBounds_toArray, List.set_cons_zero, List.set_cons_succ]
      refine held_take (i := 14) (v := .bool false) rfl (by kernel_rfl) (by kernel_rfl) (by kernel_rfl) (fun _ _ _ h => h) rfl (fun W1 hW1 => by go_simp) (s4) ?_
      simp only [Act.put, List.setIfInBounds_toArray, List.set_cons_zero, List.set_cons_succ]
      refine wpAnyH_done (by kernel_rfl) ?_ _
      have B1 := hid b1
      have NF1 := hid (fB.newF NF.out KK.out.drew.size)
      have KK1 := hid (KK.out.drew.ofNew kB NF.out)
      have CON1 : Hid ((ms ++ [m1]).map con = (List.range (k + 1)).map (tg l)) := hid (by rw [List.map_append, CON.out, List.range_succ, List.map_append, List.map_cons, List.map_cons, hm1, tg_at hlt]; rfl)
      clear q1 q2 OKM b1 hm1 kB fB s4 c1 c2
      go_wp2_with fail
      go_roundw
      case rel => exact ⟨k + 1, F1, _, by omega, by go_num, B1.out, CON1.out, NF1.out, KK1.out⟩
      case measure => simp [intOf]; omega
    · obtain rfl : k = l.length := by omega
      have hzk := KK.out.size
      clear hlt
      go_wp2_with (refine wpList_make_full _ rfl _ _ 34 rfl W.heap.size 4 ib _ 1 Try.underlying34 hib hzb hsb .i64 .i64 _ _ l.length rfl rfl rfl rfl (by rw [hbb]; omega) (by unfold maxLen; omega) hzk ?_)
      intro w3 o3 g3
      have k3 : Keeps [] wr w3 := (Keeps.refl [] wr).grown g3 (by simp)
      rw [seen_start] at o3
      have T0 : Hid (TakesAt W w3 p F wr.heap.size l (List.range l.length) ms) := hid ⟨B.out.later k3, CON.out, List.pairwise_lt_range, fun i hi => List.mem_range.1 hi, o3, fun h => by have := B.out.lt _ h; omega, NF.out, KK.out.trans k3⟩
      clear o3 g3 k3 hzk
      generalize wr.heap.size = gs at T0 ⊢
      go_wp2_with fail
      go_loopw [12] (fun iv wr => ∃ (i : Nat) (F : List Nat) (idx : List Nat) (ms : List Mg), i ≤ zs.length ∧ iv = .int .i64 i ∧ TakesAt W wr p F gs l idx ms) (fun iv _ => zs.length - (intOf iv).toNat)
      case atStart => exact ⟨0, _, _, _, by omega, rfl, T0.out⟩
      case round =>
        obtain ⟨i, F1, idx, ms1, hi, rfl, hT⟩ := hrel
        have T := hid hT
        clear hT
        by_cases hgo : i < zs.length ∧ 0 < ms1.length
        · obtain ⟨hlt, hpos⟩ := hgo
          have hposI : (0 : Int) < (ms1.length : Int) := by omega
          have few := T.out.b.few
          have LEN := hid T.out.len
          obtain ⟨g2, o2, hpa, hz2⟩ := G3.out (by intro e; rw [e] at hlt; simp at hlt)
          subst hpa
          have z0 := T.out.k.cell' (hz2 i hlt) (by simp)
          have ZB := hid (GB.out zs[i] (List.getElem_mem _))
          clear hz2
          go_wp2_with fail
          refine (bLenF T.out.b).mono ?_
          rintro e _ ⟨rfl, rfl⟩
          go_wp2_with fail
          refine (bLenF T.out.b).mono ?_
          rintro e _ ⟨rfl, rfl⟩
          go_wp2_with fail
          refine (bTakeF T.out.b zs[i] ZB.out).mono ?_
          rintro e w4 (⟨h0, _⟩ | ⟨j, hj, hmj, m1, Y, rfl, hm1, okY, fY, lY, F2, b2, kB, fB⟩)
          · rw [h0] at hpos; simp at hpos
          have hj2 : j < idx.length := by have := LEN.out; omega
          have hx := T.out.lt idx[j] (List.getElem_mem _)
          have htag := T.out.tag hj hj2
          rw [tg_at hx] at htag
          obtain ⟨row1, rfl⟩ := mg_is (hm1.trans htag)
          obtain ⟨rx, cx, hrx, -⟩ := okY.row
          simp only at hrx
          subst hrx
          simp only [mgV]
          have hmem : idx[j] ∈ idx := List.getElem_mem _
          have HX : Hid (∀ w6, Keeps [] w4 w6 → TakesAt W (w6.setCell ⟨gs, idx[j], none⟩ (.bool true)) p F2 gs l (without idx j) (ms1.take j ++ ms1.drop (j + 1))) := hid fun w6 k6 => T.out.take hj2 b2 kB fB k6
          have S4 := ownsRow_keep T.out.seen kB (fun b hb => by simp [Value.ownBlock] at hb; subst hb; exact T.out.gF)
          have K4 := T.out.k.ofNew kB T.out.nF
          have hlen2 : ((ms1.take j ++ ms1.drop (j + 1)).length : Int) = (ms1.length : Int) - 1 := by rw [List.length_append, List.length_take, List.length_drop]; omega
          have HL2 := hid hlen2
          clear htag hm1 hmj fY lY fB kB hlen2 z0
          go_upto_region 22 with (fail)
          have ky := (Keeps.refl [] w4).alloc (.cells #[.int .i64 idx[j], .int .i64 l[idx[j]].t, .slice rx l[idx[j]].bs.length cx] 33)
          have BY := hid (heap_alloc_new w4 (.cells #[.int .i64 idx[j], .int .i64 l[idx[j]].t, .slice rx l[idx[j]].bs.length cx] 33))
          have OKY := hid (okY.keep ky (by simp))
          have S5 := hid (ownsRow_keep S4 ky (by simp))
          have B5 := hid (b2.later ky)
          have K5 := hid (K4.trans ky)
          have KY := hid ky
          obtain ⟨yb, hyb⟩ : ∃ z, z = w4.heap.size := ⟨_, rfl⟩
          rw [← hyb] at BY ⊢
          generalize w4.alloc (.cells #[.int .i64 idx[j], .int .i64 l[idx[j]].t, .slice rx l[idx[j]].bs.length cx] 33) = w5 at ky BY OKY S5 B5 K5 KY ⊢
          obtain ⟨g0, off0, ha, hd⟩ := H3.out (by intro e; rw [e] at hx; simp at hx)
          subst ha
          have D := (hd idx[j] hx).keep K5.out
          obtain ⟨ra, rc, hrow, -⟩ := D.inn.row
          have DI := hid D.inn
          have l1 := D.c1
          have l2 := D.c2
          rw [hrow] at l2
          have HROW := hid hrow
          have hsc : w5.cell? ⟨gs, idx[j], none⟩ = some (.bool false) := by
            rw [World.ownsRow.cellAt S5.out idx[j] (by omega)]
            simp [hx, hmem]
          have hsf : w5.frozen? ⟨gs, idx[j], none⟩ = false := World.ownsRow.frozenAt S5.out idx[j]
          have gsl := (S5.out.lt gs rfl).2
          have gl0 := World.block_lt_of_cell? _ _ D.c1
          have ybl := lt_of_block BY.out
          have hw1 : IntKind.i64.wrap ((ms1.length : Int) - 1) = (ms1.length : Int) - 1 := by rw [IntKind.wrap_i64]; omega
          have hx0 : decide ((idx[j] : Int) < 0) = false := by simp
          have hxn : decide ((l.length : Int) ≤ (idx[j] : Int)) = false := by simp; omega
          have hfitY := OKY.out.fit
          simp only at hfitY
          clear okY b2 S4 K4 ky hyb hd D hrow
          refine wp_region_any (by kernel_rfl) (wpAny_of_held (S := KpS [] w5.heap.size w5.drew) _ _ _ _ ?_)
          change wpAnyH _ _ _ _ _ _ _ _ w5.drew
          have y0 : ∀ W1, KpS [] w5.heap.size w5.drew W1 → W1.cell? ⟨yb, 0, none⟩ = some (.int .i64 idx[j]) := fun W1 h => h.cell (by rw [World.cell?_drew]; exact (row_block3 BY.out).1) ybl (by simp)
          have y1 : ∀ W1, KpS [] w5.heap.size w5.drew W1 → W1.cell? ⟨yb, 1, none⟩ = some (.int .i64 l[idx[j]].t) := fun W1 h => h.cell (by rw [World.cell?_drew]; exact (row_block3 BY.out).2.1) ybl (by simp)
          have y2 : ∀ W1, KpS [] w5.heap.size w5.drew W1 → W1.cell? ⟨yb, 2, none⟩ = some (.slice rx l[idx[j]].bs.length cx) := fun W1 h => h.cell (by rw [World.cell?_drew]; exact (row_block3 BY.out).2.2.1) ybl (by simp)
          have q1 : ∀ W1, KpS [] w5.heap.size w5.drew W1 → W1.cell? ⟨g0, off0 + idx[j] * 3 + 1, none⟩ = some (.int .i64 l[idx[j]].t) := fun W1 h => h.cell (by rw [World.cell?_drew]; exact l1) gl0 (by simp)
          have q2 : ∀ W1, KpS [] w5.heap.size w5.drew W1 → W1.cell? ⟨g0, off0 + idx[j] * 3 + 2, none⟩ = some (.slice ra l[idx[j]].bs.length rc) := fun W1 h => h.cell (by rw [World.cell?_drew]; exact l2) gl0 (by simp)
          have q3 : ∀ W1, KpS [] w5.heap.size w5.drew W1 → W1.cell? ⟨gs, idx[j], none⟩ = some (.bool false) := fun W1 h => h.cell (by rw [World.cell?_drew]; exact hsc) gsl (by simp)
          refine held_take (i := 0) (v := .bool true) rfl (by kernel_rfl) (by kernel_rfl) (by kernel_rfl) (fun _ _ _ h => h) rfl (fun W1 hW1 => rfl) (KpS.refl _ _ _) ?_
          simp only [Act.put, List.setIfInBounds_toArray, List.set_cons_zero, List.set_cons_succ]
          refine held_take (i := 1) (v := .bool false) rfl (by kernel_rfl) (by kernel_rfl) (by kernel_rfl) (fun _ _ _ h => h) rfl (fun W1 hW1 => by go_simp) (KpS.refl _ _ _) ?_
          simp only [Act.put, List.setIfInBounds_toArray, List.set_cons_zero, List.set_cons_succ]
          refine held_take (i := 2) (v := .bool false) rfl (by kernel_rfl) (by kernel_rfl) (by kernel_rfl) (fun _ _ _ h => h) rfl (fun W1 hW1 => rfl) (KpS.refl _ _ _) ?_
          simp only [Act.put, List.setIfInBounds_toArray, List.set_cons_zero, List.set_cons_succ]
          refine held_takeW (i := 3) (v := .pointer (some ⟨yb, 0, none⟩)) rfl (by kernel_rfl) (by kernel_rfl) (by kernel_rfl) (fun _ _ _ h => h) rfl (fun W1 hW1 => by go_simp) (KpS.refl _ _ _) ?_
          simp only [Act.put, List.setIfInBounds_toArray, List.set_cons_zero, List.set_cons_succ]
          refine held_takeW (i := 4) (v := .int .i64 idx[j]) rfl (by kernel_rfl) (by kernel_rfl) (by kernel_rfl) (fun _ _ _ h => h) rfl (fun W1 hW1 => exec_load _ _ _ _ rfl rfl (run_loadCell W1 _ _ _ (y0 W1 hW1) (agg_no _ (by kernel_rfl)))) (KpS.refl _ _ _) ?_
          simp only [Act.put, List.setIfInBounds_toArray, List.set_cons_zero, List.set_cons_succ]
          refine held_takeW (i := 5) (v := .bool false) rfl (by kernel_rfl) (by kernel_rfl) (by kernel_rfl) (fun _ _ _ h => h) rfl (fun W1 hW1 => by go_simp) (KpS.refl _ _ _) ?_
          simp only [Act.put, List.setIfInBounds_toArray, List.set_cons_zero, List.set_cons_succ]
          refine held_take (i := 6) (v := .bool false) rfl (by kernel_rfl) (by kernel_rfl) (by kernel_rfl) (fun _ _ _ h => h) rfl (fun W1 hW1 => by go_simp) (KpS.refl _ _ _) ?_
          simp only [Act.put, List.setIfInBounds_toArray, List.set_cons_zero, List.set_cons_succ]
          refine held_take (i := 7) (v := .bool false) rfl (by kernel_rfl) (by kernel_rfl) (by kernel_rfl) (fun _ _ _ h => h) rfl (fun W1 hW1 => rfl) (KpS.refl _ _ _) ?_
          simp only [Act.put, List.setIfInBounds_toArray, List.set_cons_zero, List.set_cons_succ]
          refine held_takeW (i := 8) (v := .pointer (some ⟨yb, 0, none⟩)) rfl (by kernel_rfl) (by kernel_rfl) (by kernel_rfl) (fun _ _ _ h => h) rfl (fun W1 hW1 => by go_simp) (KpS.refl _ _ _) ?_
          simp only [Act.put, List.setIfInBounds_toArray, List.set_cons_zero, List.set_cons_succ]
          refine held_takeW (i := 9) (v := .int .i64 idx[j]) rfl (by kernel_rfl) (by kernel_rfl) (by kernel_rfl) (fun _ _ _ h => h) rfl (fun W1 hW1 => exec_load _ _ _ _ rfl rfl (run_loadCell W1 _ _ _ (y0 W1 hW1) (agg_no _ (by kernel_rfl)))) (KpS.refl _ _ _) ?_
          simp only [Act.put, List.setIfInBounds_toArray, List.set_cons_zero, List.set_cons_succ]
          refine held_takeW (i := 10) (v := .slice (some ⟨g0, off0, none⟩) l.length cap) rfl (by kernel_rfl) (by kernel_rfl) (by kernel_rfl) (fun _ _ _ h => h) rfl (fun W1 hW1 => rfl) (KpS.refl _ _ _) ?_
          simp only [Act.put, List.setIfInBounds_toArray, List.set_cons_zero, List.set_cons_succ]
          refine held_takeW (i := 11) (v := .int .i64 l.length) rfl (by kernel_rfl) (by kernel_rfl) (by kernel_rfl) (fun _ _ _ h => h) rfl (fun W1 hW1 => by go_simp) (KpS.refl _ _ _) ?_
          simp only [Act.put, List.setIfInBounds_toArray, List.set_cons_zero, List.set_cons_succ]
          refine held_takeW (i := 12) (v := .bool false) rfl (by kernel_rfl) (by kernel_rfl) (by kernel_rfl) (fun _ _ _ h => h) rfl (fun W1 hW1 => by go_simp) (KpS.refl _ _ _) ?_
          simp only [Act.put, List.setIfInBounds_toArray, List.set_cons_zero, List.set_cons_succ]
          refine held_take (i := 13) (v := .bool false) rfl (by kernel_rfl) (by kernel_rfl) (by kernel_rfl) (fun _ _ _ h => h) rfl (fun W1 hW1 => by go_simp) (KpS.refl _ _ _) ?_
          simp only [Act.put, List.setIfInBounds_toArray, List.set_cons_zero, List.set_cons_succ]
          refine held_take (i := 14) (v := .bool false) rfl (by kernel_rfl) (by kernel_rfl) (by kernel_rfl) (fun _ _ _ h => h) rfl (fun W1 hW1 => rfl) (KpS.refl _ _ _) ?_
          simp only [Act.put, List.setIfInBounds_toArray, List.set_cons_zero, List.set_cons_succ]
          refine held_takeW (i := 15) (v := .slice (some ⟨gs, 0, none⟩) l.length l.length) rfl (by kernel_rfl) (by kernel_rfl) (by kernel_rfl) (fun _ _ _ h => h) rfl (fun W1 hW1 => rfl) (KpS.refl _ _ _) ?_
          simp only [Act.put, List.setIfInBounds_toArray, List.set_cons_zero, List.set_cons_succ]
          refine held_takeW (i := 16) (v := .pointer (some ⟨yb, 0, none⟩)) rfl (by kernel_rfl) (by kernel_rfl) (by kernel_rfl) (fun _ _ _ h => h) rfl (fun W1 hW1 => by go_simp) (KpS.refl _ _ _) ?_
          simp only [Act.put, List.setIfInBounds_toArray, List.set_cons_zero, List.set_cons_succ]
          refine held_takeW (i := 17) (v := .int .i64 idx[j]) rfl (by kernel_rfl) (by kernel_rfl) (by kernel_rfl) (fun _ _ _ h => h) rfl (fun W1 hW1 => exec_load _ _ _ _ rfl rfl (run_loadCell W1 _ _ _ (y0 W1 hW1) (agg_no _ (by kernel_rfl)))) (KpS.refl _ _ _) ?_
          simp only [Act.put, List.setIfInBounds_toArray, List.set_cons_zero, List.set_cons_succ]
          refine held_takeW (i := 18) (v := .pointer (some ⟨gs, idx[j], none⟩)) rfl (by kernel_rfl) (by kernel_rfl) (by kernel_rfl) (fun _ _ _ h => h) rfl (fun W1 hW1 => by go_simp) (KpS.refl _ _ _) ?_
          simp only [Act.put, List.setIfInBounds_toArray, List.set_cons_zero, List.set_cons_succ]
          refine held_takeW (i := 19) (v := .bool false) rfl (by kernel_rfl) (by kernel_rfl) (by kernel_rfl) (fun _ _ _ h => h) rfl (fun W1 hW1 => exec_load _ _ _ _ rfl rfl (run_loadCell W1 _ _ _ (q3 W1 hW1) (agg_no _ (by kernel_rfl)))) (KpS.refl _ _ _) ?_
          simp only [Act.put, List.setIfInBounds_toArray, List.set_cons_zero, List.set_cons_succ]
          refine held_take (i := 20) (v := .bool false) rfl (by kernel_rfl) (by kernel_rfl) (by kernel_rfl) (fun _ _ _ h => h) rfl (fun W1 hW1 => by go_simp) (KpS.refl _ _ _) ?_
          simp only [Act.put, List.setIfInBounds_toArray, List.set_cons_zero, List.set_cons_succ]
          refine held_take (i := 21) (v := .bool false) rfl (by kernel_rfl) (by kernel_rfl) (by kernel_rfl) (fun _ _ _ h => h) rfl (fun W1 hW1 => rfl) (KpS.refl _ _ _) ?_
          simp only [Act.put, List.setIfInBounds_toArray, List.set_cons_zero, List.set_cons_succ]
          refine held_takeW (i := 22) (v := .pointer (some ⟨p, 0, none⟩)) rfl (by kernel_rfl) (by kernel_rfl) (by kernel_rfl) (fun _ _ _ h => h) rfl (fun W1 hW1 => rfl) (KpS.refl _ _ _) ?_
          simp only [Act.put, List.setIfInBounds_toArray, List.set_cons_zero, List.set_cons_succ]
          refine held_takeW (i := 24) (v := .int .i64 ms1.length) rfl (by kernel_rfl) (by kernel_rfl) (by kernel_rfl) (fun _ _ _ h => h) rfl (fun W1 hW1 => rfl) (KpS.refl _ _ _) ?_
          simp only [Act.put, List.setIfInBounds_toArray, List.set_cons_zero, List.set_cons_succ]
          refine held_takeW (i := 25) (v := .int .i64 ((ms1.length : Int) - 1)) rfl (by kernel_rfl) (by kernel_rfl) (by kernel_rfl) (fun _ _ _ h => h) rfl (fun W1 hW1 => by go_simp) (KpS.refl _ _ _) ?_
          simp only [Act.put, List.setIfInBounds_toArray, List.set_cons_zero, List.set_cons_succ]
          refine held_doW (i := 23) (by kernel_rfl) rfl rfl (wp_enter (f := 13) (args := #[.pointer (some ⟨p, 0, none⟩)]) (by go_simp) (bLenF (B5.out.later (Keeps.refl [] w5).drew)) ?_)
          rintro e _ ⟨rfl, rfl⟩
          rw [HL2.out]
          refine ⟨_, rfl, KpS.refl _ _ _, ?_⟩
          simp only [Act.put, List.setIfInBounds_toArray, List.set_cons_zero, List.set_cons_succ]
          refine held_takeW (i := 26) (v := .bool false) rfl (by kernel_rfl) (by kernel_rfl) (by kernel_rfl) (fun _ _ _ h => h) rfl (fun W1 hW1 => by go_simp) (KpS.refl _ _ _) ?_
          simp only [Act.put, List.setIfInBounds_toArray, List.set_cons_zero, List.set_cons_succ]
          refine held_take (i := 27) (v := .bool false) rfl (by kernel_rfl) (by kernel_rfl) (by kernel_rfl) (fun _ _ _ h => h) rfl (fun W1 hW1 => by go_simp) (KpS.refl _ _ _) ?_
          simp only [Act.put, List.setIfInBounds_toArray, List.set_cons_zero, List.set_cons_succ]
          refine held_take (i := 28) (v := .bool false) rfl (by kernel_rfl) (by kernel_rfl) (by kernel_rfl) (fun _ _ _ h => h) rfl (fun W1 hW1 => rfl) (KpS.refl _ _ _) ?_
          simp only [Act.put, List.setIfInBounds_toArray, List.set_cons_zero, List.set_cons_succ]
          refine held_takeW (i := 29) (v := .pointer (some ⟨yb, 1, none⟩)) rfl (by kernel_rfl) (by kernel_rfl) (by kernel_rfl) (fun _ _ _ h => h) rfl (fun W1 hW1 => by go_simp) (KpS.refl _ _ _) ?_
          simp only [Act.put, List.setIfInBounds_toArray, List.set_cons_zero, List.set_cons_succ]
          refine held_takeW (i := 30) (v := .int .i64 l[idx[j]].t) rfl (by kernel_rfl) (by kernel_rfl) (by kernel_rfl) (fun _ _ _ h => h) rfl (fun W1 hW1 => exec_load _ _ _ _ rfl rfl (run_loadCell W1 _ _ _ (y1 W1 hW1) (agg_no _ (by kernel_rfl)))) (KpS.refl _ _ _) ?_
          simp only [Act.put, List.setIfInBounds_toArray, List.set_cons_zero, List.set_cons_succ]
          refine held_takeW (i := 31) (v := .slice (some ⟨g0, off0, none⟩) l.length cap) rfl (by kernel_rfl) (by kernel_rfl) (by kernel_rfl) (fun _ _ _ h => h) rfl (fun W1 hW1 => rfl) (KpS.refl _ _ _) ?_
          simp only [Act.put, List.setIfInBounds_toArray, List.set_cons_zero, List.set_cons_succ]
          refine held_takeW (i := 32) (v := .pointer (some ⟨yb, 0, none⟩)) rfl (by kernel_rfl) (by kernel_rfl) (by kernel_rfl) (fun _ _ _ h => h) rfl (fun W1 hW1 => by go_simp) (KpS.refl _ _ _) ?_
          simp only [Act.put, List.setIfInBounds_toArray, List.set_cons_zero, List.set_cons_succ]
          refine held_takeW (i := 33) (v := .int .i64 idx[j]) rfl (by kernel_rfl) (by kernel_rfl) (by kernel_rfl) (fun _ _ _ h => h) rfl (fun W1 hW1 => exec_load _ _ _ _ rfl rfl (run_loadCell W1 _ _ _ (y0 W1 hW1) (agg_no _ (by kernel_rfl)))) (KpS.refl _ _ _) ?_
          simp only [Act.put, List.setIfInBounds_toArray, List.set_cons_zero, List.set_cons_succ]
          refine held_takeW (i := 34) (v := .pointer (some ⟨g0, off0 + idx[j] * 3, none⟩)) rfl (by kernel_rfl) (by kernel_rfl) (by kernel_rfl) (fun _ _ _ h => h) rfl (fun W1 hW1 => by go_simp) (KpS.refl _ _ _) ?_
          simp only [Act.put, List.setIfInBounds_toArray, List.set_cons_zero, List.set_cons_succ]
          refine held_takeW (i := 35) (v := .pointer (some ⟨g0, off0 + idx[j] * 3 + 1, none⟩)) rfl (by kernel_rfl) (by kernel_rfl) (by kernel_rfl) (fun _ _ _ h => h) rfl (fun W1 hW1 => by go_simp) (KpS.refl _ _ _) ?_
          simp only [Act.put, List.setIfInBounds_toArray, List.set_cons_zero, List.set_cons_succ]
          refine held_takeW (i := 36) (v := .int .i64 l[idx[j]].t) rfl (by kernel_rfl) (by kernel_rfl) (by kernel_rfl) (fun _ _ _ h => h) rfl (fun W1 hW1 => exec_load _ _ _ _ rfl rfl (run_loadCell W1 _ _ _ (q1 W1 hW1) (agg_no _ (by kernel_rfl)))) (KpS.refl _ _ _) ?_
          simp only [Act.put, List.setIfInBounds_toArray, List.set_cons_zero, List.set_cons_succ]
          refine held_takeW (i := 37) (v := .bool false) rfl (by kernel_rfl) (by kernel_rfl) (by kernel_rfl) (fun _ _ _ h => h) rfl (fun W1 hW1 => by go_simp) (KpS.refl _ _ _) ?_
          simp only [Act.put, List.setIfInBounds_toArray, List.set_cons_zero, List.set_cons_succ]
          refine held_take (i := 38) (v := .bool false) rfl (by kernel_rfl) (by kernel_rfl) (by kernel_rfl) (fun _ _ _ h => h) rfl (fun W1 hW1 => by go_simp) (KpS.refl _ _ _) ?_
          simp only [Act.put, List.setIfInBounds_toArray, List.set_cons_zero, List.set_cons_succ]
          refine held_take (i := 39) (v := .bool false) rfl (by kernel_rfl) (by kernel_rfl) (by kernel_rfl) (fun _ _ _ h => h) rfl (fun W1 hW1 => rfl) (KpS.refl _ _ _) ?_
          simp only [Act.put, List.setIfInBounds_toArray, List.set_cons_zero, List.set_cons_succ]
          refine held_takeW (i := 40) (v := .pointer (some ⟨yb, 2, none⟩)) rfl (by kernel_rfl) (by kernel_rfl) (by kernel_rfl) (fun _ _ _ h => h) rfl (fun W1 hW1 => by go_simp) (KpS.refl _ _ _) ?_
          simp only [Act.put, List.setIfInBounds_toArray, List.set_cons_zero, List.set_cons_succ]
          refine held_takeW (i := 41) (v := .slice rx l[idx[j]].bs.length cx) rfl (by kernel_rfl) (by kernel_rfl) (by kernel_rfl) (fun _ _ _ h => h) rfl (fun W1 hW1 => exec_load _ _ _ _ rfl rfl (run_loadCell W1 _ _ _ (y2 W1 hW1) (agg_no _ (by kernel_rfl)))) (KpS.refl _ _ _) ?_
          simp only [Act.put, List.setIfInBounds_toArray, List.set_cons_zero, List.set_cons_succ]
          refine held_takeW (i := 42) (v := .slice (some ⟨g0, off0, none⟩) l.length cap) rfl (by kernel_rfl) (by kernel_rfl) (by kernel_rfl) (fun _ _ _ h => h) rfl (fun W1 hW1 => rfl) (KpS.refl _ _ _) ?_
          simp only [Act.put, List.setIfInBounds_toArray, List.set_cons_zero, List.set_cons_succ]
          refine held_takeW (i := 43) (v := .pointer (some ⟨yb, 0, none⟩)) rfl (by kernel_rfl) (by kernel_rfl) (by kernel_rfl) (fun _ _ _ h => h) rfl (fun W1 hW1 => by go_simp) (KpS.refl _ _ _) ?_
          simp only [Act.put, List.setIfInBounds_toArray, List.set_cons_zero, List.set_cons_succ]
          refine held_takeW (i := 44) (v := .int .i64 idx[j]) rfl (by kernel_rfl) (by kernel_rfl) (by kernel_rfl) (fun _ _ _ h => h) rfl (fun W1 hW1 => exec_load _ _ _ _ rfl rfl (run_loadCell W1 _ _ _ (y0 W1 hW1) (agg_no _ (by kernel_rfl)))) (KpS.refl _ _ _) ?_
          simp only [Act.put, List.setIfInBounds_toArray, List.set_cons_zero, List.set_cons_succ]
          refine held_takeW (i := 45) (v := .pointer (some ⟨g0, off0 + idx[j] * 3, none⟩)) rfl (by kernel_rfl) (by kernel_rfl) (by kernel_rfl) (fun _ _ _ h => h) rfl (fun W1 hW1 => by go_simp) (KpS.refl _ _ _) ?_
          simp only [Act.put, List.setIfInBounds_toArray, List.set_cons_zero, List.set_cons_succ]
          refine held_takeW (i := 46) (v := .pointer (some ⟨g0, off0 + idx[j] * 3 + 2, none⟩)) rfl (by kernel_rfl) (by kernel_rfl) (by kernel_rfl) (fun _ _ _ h => h) rfl (fun W1 hW1 => by go_simp) (KpS.refl _ _ _) ?_
          simp only [Act.put, List.setIfInBounds_toArray, List.set_cons_zero, List.set_cons_succ]
          refine held_takeW (i := 47) (v := .slice ra l[idx[j]].bs.length rc) rfl (by kernel_rfl) (by kernel_rfl) (by kernel_rfl) (fun _ _ _ h => h) rfl (fun W1 hW1 => exec_load _ _ _ _ rfl rfl (run_loadCell W1 _ _ _ (q2 W1 hW1) (agg_no _ (by kernel_rfl)))) (KpS.refl _ _ _) ?_
          simp only [Act.put, List.setIfInBounds_toArray, List.set_cons_zero, List.set_cons_succ]
          have RR := (DI.out.keep (Keeps.refl [] w5).drew).row
          rw [HROW.out] at RR
          have SP := same_any w5.drew _ _ l[idx[j]].bs l[idx[j]].bs (OKY.out.keep ((Keeps.refl [] w5).drew) (by simp)).row RR (by omega) (by omega)
          simp only at SP
          refine held_doW (i := 48) (by kernel_rfl) rfl rfl (wp_enter (f := 15) (args := #[.slice rx l[idx[j]].bs.length cx, .slice ra l[idx[j]].bs.length rc]) (by go_simp) (SP) ?_)
          rintro e _ ⟨rfl, n6, rfl⟩
          have s6 : KpS [] w5.heap.size w5.drew (w5.drew.drewN n6) := (KpS.refl _ _ _).keeps ((Keeps.refl [] w5.drew).drewN n6) (Nat.le_refl _) (by simp)
          refine ⟨_, rfl, s6, ?_⟩
          simp only [Act.put, List.setIfInBounds_toArray, List.set_cons_zero, List.set_cons_succ]
          refine held_takeW (i := 49) (v := .bool false) rfl (by kernel_rfl) (by kernel_rfl) (by kernel_rfl) (fun _ _ _ h => h) rfl (fun W1 hW1 => by go_simp) (s6) ?_
          simp only [Act.put, List.setIfInBounds_toArray, List.set_cons_zero, List.set_cons_succ]
          refine held_take (i := 50) (v := .bool false) rfl (by kernel_rfl) (by kernel_rfl) (by kernel_rfl) (fun _ _ _ h => h) rfl (fun W1 hW1 => by go_simp) (s6) ?_
          simp only [Act.put, List.setIfInBounds_toArray, List.set_cons_zero, List.set_cons_succ]
          refine wpAnyH_done (by kernel_rfl) ?_ _
          have K6 := (Keeps.refl [] w5).drew.drewN n6
          have TT := hid (HX.out _ (KY.out.trans K6))
          have hsc6 : (w5.drew.drewN n6).cell? ⟨gs, idx[j], none⟩ = some (.bool false) := K6.cell' hsc (by simp)
          have hsf6 : (w5.drew.drewN n6).frozen? ⟨gs, idx[j], none⟩ = false := World.ownsRow.frozenAt (ownsRow_keep S5.out K6 (by simp)) idx[j]
          have y06 : (w5.drew.drewN n6).cell? ⟨yb, 0, none⟩ = some (.int .i64 idx[j]) := K6.cell' (row_block3 BY.out).1 (by simp)
          clear y0 y1 y2 q1 q2 q3 RR SP s6 hsc hsf l1 l2
          generalize w5.drew.drewN n6 = w6 at K6 TT hsc6 hsf6 y06 ⊢
          clear K6
          go_wp2_with fail
          go_roundw
          case rel => exact ⟨i + 1, F2, without idx j, _, by omega, by go_num, TT.out⟩
          case measure => simp [intOf]; omega
        · by_cases hlt : i < zs.length
          · have hm0 : ¬ (0 : Int) < (ms1.length : Int) := by omega
            go_wp2_with fail
            refine (bLenF T.out.b).mono ?_
            rintro e _ ⟨rfl, rfl⟩
            go_wp2_with fail
            refine (bAllF T.out.b).mono ?_
            rintro e w7 ⟨a7, c7, g7, ks, rfl, o7, hc7, hg7, k7⟩
            have few7 := T.out.b.few
            have LK := hid (con_len hc7)
            have T7 := hid (T.out.later k7)
            have O7 := hid o7
            have HC7 := hid hc7
            have LEN7 := hid T.out.len
            rw [← con_len hc7] at few7
            rw [← con_len hc7] at O7 ⊢
            clear o7 hc7 hg7 k7
            go_wp2_with fail
            go_loopw [9, 17] (fun mv iv wr2 => ∃ i3 n3 : Nat, i3 ≤ ks.length ∧ iv = .int .i64 i3 ∧ mv = .int .i64 ((i3 : Int) - ((ks.take i3).filter (keepTo tt)).length) ∧ wr2 = w7.drewN n3) (fun _ iv _ => ks.length - (intOf iv).toNat)
            case atStart => exact ⟨0, 0, by omega, rfl, by simp, rfl⟩
            case round =>
              obtain ⟨i3, n3, hi3, rfl, rfl, rfl⟩ := hrel
              have kk3 := (Keeps.refl [] w7).drewN n3
              have T8 := hid (T7.out.later kk3)
              by_cases hlt3 : i3 < ks.length
              · have hj : i3 < idx.length := by have := LK.out; have := LEN7.out; omega
                have hm3 : i3 < ms1.length := by have := LK.out; omega
                obtain ⟨g8, off8, ha8, -, gl8, d0, d1, d2⟩ := (O7.out.later kk3).at.at i3 hlt3
                have hx := T7.out.lt idx[i3] (List.getElem_mem _)
                have hks := (con_at HC7.out i3 hlt3 hm3).trans (T7.out.tag hm3 hj)
                rw [tg_at hx] at hks
                simp only [con, Prod.mk.injEq] at hks
                rw [hks.1] at d0
                have hmem : idx[i3] ∈ idx := List.getElem_mem _
                have hsc : (w7.drewN n3).cell? ⟨gs, idx[i3], none⟩ = some (.bool false) := by
                  rw [World.ownsRow.cellAt T8.out.seen idx[i3] (by omega)]
                  simp [hx, hmem]
                have gsl := (T8.out.seen.lt gs rfl).2
                have PREV : Hid (0 < i3 → ∃ hj1 : i3 - 1 < idx.length, (w7.drewN n3).cell? ⟨g8, off8 + (i3 - 1) * 3, none⟩ = some (.int .i64 (idx[i3 - 1]'hj1)) ∧ idx[i3 - 1]'hj1 < idx[i3]) := hid fun h0 => by
                  have hlt4 : i3 - 1 < ks.length := by omega
                  have hm4 : i3 - 1 < ms1.length := by omega
                  have hj1 : i3 - 1 < idx.length := by omega
                  obtain ⟨g9, off9, ha9, -, -, e0, -, -⟩ := (O7.out.later kk3).at.at (i3 - 1) hlt4
                  rw [ha8] at ha9
                  have e9 := Option.some.inj ha9
                  injection e9 with e91 e92 _
                  have hk9 := (con_at HC7.out (i3 - 1) hlt4 hm4).trans (T7.out.tag hm4 hj1)
                  rw [tg_at (T7.out.lt _ (List.getElem_mem hj1))] at hk9
                  simp only [con, Prod.mk.injEq] at hk9
                  rw [hk9.1, ← e91, ← e92] at e0
                  exact ⟨hj1, e0, List.pairwise_iff_getElem.1 T7.out.inc (i3 - 1) i3 hj1 hj (by omega)⟩
                subst ha8
                obtain ⟨wr, hwr⟩ : ∃ z, z = w7.drewN n3 := ⟨_, rfl⟩
                rw [← hwr] at d0 d1 d2 hsc gsl gl8 PREV T8 ⊢
                have HWR := hid hwr
                have hx0 : decide ((idx[i3] : Int) < 0) = false := by simp
                have hxn : decide ((l.length : Int) ≤ (idx[i3] : Int)) = false := by simp; omega
                clear hks hmem hwr kk3
                go_wp2_with fail
                have d0' : ∀ W1, KpS [] wr.heap.size wr.drew W1 → W1.cell? ⟨g8, off8 + i3 * 3, none⟩ = some (.int .i64 idx[i3]) := fun W1 h => h.cell (by rw [World.cell?_drew]; exact d0) gl8 (by simp)
                have s0' : ∀ W1, KpS [] wr.heap.size wr.drew W1 → W1.cell? ⟨gs, idx[i3], none⟩ = some (.bool false) := fun W1 h => h.cell (by rw [World.cell?_drew]; exact hsc) gsl (by simp)
                by_cases h0 : i3 = 0
                · have hd0 : decide ((0 : Int) < (i3 : Int)) = false := by simp; omega
                  have H0 := hid h0
                  clear h0
                  refine wp_region_any (by kernel_rfl) (wpAny_of_held (S := KpS [] wr.heap.size wr.drew) _ _ _ _ ?_)
                  change wpAnyH _ _ _ _ _ _ _ _ wr.drew
                  refine held_take (i := 0) (v := .slice (some ⟨g8, off8, none⟩) ks.length c7) rfl (by kernel_rfl) (by kernel_rfl) (by kernel_rfl) (fun _ _ _ h => h) rfl (fun W1 hW1 => rfl) (KpS.refl _ _ _) ?_
                  simp only [Act.put, List.setIfInBounds_toArray, List.set_cons_zero, List.set_cons_succ]
                  refine held_take (i := 1) (v := .int .i64 i3) rfl (by kernel_rfl) (by kernel_rfl) (by kernel_rfl) (fun _ _ _ h => h) rfl (fun W1 hW1 => rfl) (KpS.refl _ _ _) ?_
                  simp only [Act.put, List.setIfInBounds_toArray, List.set_cons_zero, List.set_cons_succ]
                  refine held_take (i := 2) (v := .pointer (some ⟨g8, off8 + i3 * 3, none⟩)) rfl (by kernel_rfl) (by kernel_rfl) (by kernel_rfl) (fun _ _ _ h => h) rfl (fun W1 hW1 => by go_simp) (KpS.refl _ _ _) ?_
                  simp only [Act.put, List.setIfInBounds_toArray, List.set_cons_zero, List.set_cons_succ]
                  refine held_take (i := 3) (v := .pointer (some ⟨g8, off8 + i3 * 3, none⟩)) rfl (by kernel_rfl) (by kernel_rfl) (by kernel_rfl) (fun _ _ _ h => h) rfl (fun W1 hW1 => by go_simp) (KpS.refl _ _ _) ?_
                  simp only [Act.put, List.setIfInBounds_toArray, List.set_cons_zero, List.set_cons_succ]
                  refine held_take (i := 4) (v := .int .i64 idx[i3]) rfl (by kernel_rfl) (by kernel_rfl) (by kernel_rfl) (fun _ _ _ h => h) rfl (fun W1 hW1 => exec_load _ _ _ _ rfl rfl (run_loadCell W1 _ _ _ (d0' W1 hW1) (agg_no _ (by kernel_rfl)))) (KpS.refl _ _ _) ?_
                  simp only [Act.put, List.setIfInBounds_toArray, List.set_cons_zero, List.set_cons_succ]
                  refine held_take (i := 5) (v := .bool false) rfl (by kernel_rfl) (by kernel_rfl) (by kernel_rfl) (fun _ _ _ h => h) rfl (fun W1 hW1 => by go_simp) (KpS.refl _ _ _) ?_
                  simp only [Act.put, List.setIfInBounds_toArray, List.set_cons_zero, List.set_cons_succ]
                  refine held_take (i := 6) (v := .bool false) rfl (by kernel_rfl) (by kernel_rfl) (by kernel_rfl) (fun _ _ _ h => h) rfl (fun W1 hW1 => rfl) (KpS.refl _ _ _) ?_
                  simp only [Act.put, List.setIfInBounds_toArray, List.set_cons_zero, List.set_cons_succ]
                  refine held_takeW (i := 7) (v := .slice (some ⟨g8, off8, none⟩) ks.length c7) rfl (by kernel_rfl) (by kernel_rfl) (by kernel_rfl) (fun _ _ _ h => h) rfl (fun W1 hW1 => rfl) (KpS.refl _ _ _) ?_
                  simp only [Act.put, List.setIfInBounds_toArray, List.set_cons_zero, List.set_cons_succ]
                  refine held_takeW (i := 8) (v := .int .i64 i3) rfl (by kernel_rfl) (by kernel_rfl) (by kernel_rfl) (fun _ _ _ h => h) rfl (fun W1 hW1 => rfl) (KpS.refl _ _ _) ?_
                  simp only [Act.put, List.setIfInBounds_toArray, List.set_cons_zero, List.set_cons_succ]
                  refine held_takeW (i := 9) (v := .pointer (some ⟨g8, off8 + i3 * 3, none⟩)) rfl (by kernel_rfl) (by kernel_rfl) (by kernel_rfl) (fun _ _ _ h => h) rfl (fun W1 hW1 => by go_simp) (KpS.refl _ _ _) ?_
                  simp only [Act.put, List.setIfInBounds_toArray, List.set_cons_zero, List.set_cons_succ]
                  refine held_takeW (i := 10) (v := .pointer (some ⟨g8, off8 + i3 * 3, none⟩)) rfl (by kernel_rfl) (by kernel_rfl) (by kernel_rfl) (fun _ _ _ h => h) rfl (fun W1 hW1 => by go_simp) (KpS.refl _ _ _) ?_
                  simp only [Act.put, List.setIfInBounds_toArray, List.set_cons_zero, List.set_cons_succ]
                  refine held_takeW (i := 11) (v := .int .i64 idx[i3]) rfl (by kernel_rfl) (by kernel_rfl) (by kernel_rfl) (fun _ _ _ h => h) rfl (fun W1 hW1 => exec_load _ _ _ _ rfl rfl (run_loadCell W1 _ _ _ (d0' W1 hW1) (agg_no _ (by kernel_rfl)))) (KpS.refl _ _ _) ?_
                  simp only [Act.put, List.setIfInBounds_toArray, List.set_cons_zero, List.set_cons_succ]
                  refine held_takeW (i := 12) (v := .slice a l.length cap) rfl (by kernel_rfl) (by kernel_rfl) (by kernel_rfl) (fun _ _ _ h => h) rfl (fun W1 hW1 => rfl) (KpS.refl _ _ _) ?_
                  simp only [Act.put, List.setIfInBounds_toArray, List.set_cons_zero, List.set_cons_succ]
                  refine held_takeW (i := 13) (v := .int .i64 l.length) rfl (by kernel_rfl) (by kernel_rfl) (by kernel_rfl) (fun _ _ _ h => h) rfl (fun W1 hW1 => by go_simp) (KpS.refl _ _ _) ?_
                  simp only [Act.put, List.setIfInBounds_toArray, List.set_cons_zero, List.set_cons_succ]
                  refine held_takeW (i := 14) (v := .bool false) rfl (by kernel_rfl) (by kernel_rfl) (by kernel_rfl) (fun _ _ _ h => h) rfl (fun W1 hW1 => by go_simp) (KpS.refl _ _ _) ?_
                  simp only [Act.put, List.setIfInBounds_toArray, List.set_cons_zero, List.set_cons_succ]
                  refine held_take (i := 15) (v := .bool false) rfl (by kernel_rfl) (by kernel_rfl) (by kernel_rfl) (fun _ _ _ h => h) rfl (fun W1 hW1 => by go_simp) (KpS.refl _ _ _) ?_
                  simp only [Act.put, List.setIfInBounds_toArray, List.set_cons_zero, List.set_cons_succ]
                  refine held_take (i := 16) (v := .bool false) rfl (by kernel_rfl) (by kernel_rfl) (by kernel_rfl) (fun _ _ _ h => h) rfl (fun W1 hW1 => rfl) (KpS.refl _ _ _) ?_
                  simp only [Act.put, List.setIfInBounds_toArray, List.set_cons_zero, List.set_cons_succ]
                  refine held_takeW (i := 17) (v := .int .i64 i3) rfl (by kernel_rfl) (by kernel_rfl) (by kernel_rfl) (fun _ _ _ h => h) rfl (fun W1 hW1 => rfl) (KpS.refl _ _ _) ?_
                  simp only [Act.put, List.setIfInBounds_toArray, List.set_cons_zero, List.set_cons_succ]
                  refine held_takeW (i := 18) (v := .bool false) rfl (by kernel_rfl) (by kernel_rfl) (by kernel_rfl) (fun _ _ _ h => h) rfl (fun W1 hW1 => by go_simp; exact H0.out) (KpS.refl _ _ _) ?_
                  simp only [Act.put, List.setIfInBounds_toArray, List.set_cons_zero, List.set_cons_succ]
                  refine held_takeW (i := 19) (v := .bool false) rfl (by kernel_rfl) (by kernel_rfl) (by kernel_rfl) (fun _ _ _ h => h) rfl (fun W1 hW1 => rfl) (KpS.refl _ _ _) ?_
                  simp only [Act.put, List.setIfInBounds_toArray, List.set_cons_zero, List.set_cons_succ]
                  refine held_skip (i := 20) rfl (by kernel_rfl) (by kernel_rfl) (by kernel_rfl) (fun _ _ _ h => h) rfl (KpS.refl _ _ _) ?_
                  simp only [Act.put, List.setIfInBounds_toArray, List.set_cons_zero, List.set_cons_succ]
                  refine held_skip (i := 21) rfl (by kernel_rfl) (by kernel_rfl) (by kernel_rfl) (fun _ _ _ h => h) rfl (KpS.refl _ _ _) ?_
                  simp only [Act.put, List.setIfInBounds_toArray, List.set_cons_zero, List.set_cons_succ]
                  refine held_skip (i := 22) rfl (by kernel_rfl) (by kernel_rfl) (by kernel_rfl) (fun _ _ _ h => h) rfl (KpS.refl _ _ _) ?_
                  simp only [Act.put, List.setIfInBounds_toArray, List.set_cons_zero, List.set_cons_succ]
                  refine held_skip (i := 23) rfl (by kernel_rfl) (by kernel_rfl) (by kernel_rfl) (fun _ _ _ h => h) rfl (KpS.refl _ _ _) ?_
                  simp only [Act.put, List.setIfInBounds_toArray, List.set_cons_zero, List.set_cons_succ]
                  refine held_skip (i := 24) rfl (by kernel_rfl) (by kernel_rfl) (by kernel_rfl) (fun _ _ _ h => h) rfl (KpS.refl _ _ _) ?_
                  simp only [Act.put, List.setIfInBounds_toArray, List.set_cons_zero, List.set_cons_succ]
                  refine held_skip (i := 25) rfl (by kernel_rfl) (by kernel_rfl) (by kernel_rfl) (fun _ _ _ h => h) rfl (KpS.refl _ _ _) ?_
                  simp only [Act.put, List.setIfInBounds_toArray, List.set_cons_zero, List.set_cons_succ]
                  refine held_skip (i := 26) rfl (by kernel_rfl) (by kernel_rfl) (by kernel_rfl) (fun _ _ _ h => h) rfl (KpS.refl _ _ _) ?_
                  simp only [Act.put, List.setIfInBounds_toArray, List.set_cons_zero, List.set_cons_succ]
                  refine held_skip (i := 27) rfl (by kernel_rfl) (by kernel_rfl) (by kernel_rfl) (fun _ _ _ h => h) rfl (KpS.refl _ _ _) ?_
                  simp only [Act.put, List.setIfInBounds_toArray, List.set_cons_zero, List.set_cons_succ]
                  refine held_skip (i := 28) rfl (by kernel_rfl) (by kernel_rfl) (by kernel_rfl) (fun _ _ _ h => h) rfl (KpS.refl _ _ _) ?_
                  simp only [Act.put, List.setIfInBounds_toArray, List.set_cons_zero, List.set_cons_succ]
                  refine held_skip (i := 29) rfl (by kernel_rfl) (by kernel_rfl) (by kernel_rfl) (fun _ _ _ h => h) rfl (KpS.refl _ _ _) ?_
                  simp only [Act.put, List.setIfInBounds_toArray, List.set_cons_zero, List.set_cons_succ]
                  refine held_skip (i := 30) rfl (by kernel_rfl) (by kernel_rfl) (by kernel_rfl) (fun _ _ _ h => h) rfl (KpS.refl _ _ _) ?_
                  simp only [Act.put, List.setIfInBounds_toArray, List.set_cons_zero, List.set_cons_succ]
                  refine held_skip (i := 31) rfl (by kernel_rfl) (by kernel_rfl) (by kernel_rfl) (fun _ _ _ h => h) rfl (KpS.refl _ _ _) ?_
                  simp only [Act.put, List.setIfInBounds_toArray, List.set_cons_zero, List.set_cons_succ]
                  refine held_takeW (i := 32) (v := .bool false) rfl (by kernel_rfl) (by kernel_rfl) (by kernel_rfl) (fun _ _ _ h => h) rfl (fun W1 hW1 => by go_simp) (KpS.refl _ _ _) ?_
                  simp only [Act.put, List.setIfInBounds_toArray, List.set_cons_zero, List.set_cons_succ]
                  refine held_take (i := 33) (v := .bool false) rfl (by kernel_rfl) (by kernel_rfl) (by kernel_rfl) (fun _ _ _ h => h) rfl (fun W1 hW1 => by go_simp) (KpS.refl _ _ _) ?_
                  simp only [Act.put, List.setIfInBounds_toArray, List.set_cons_zero, List.set_cons_succ]
                  refine held_take (i := 34) (v := .bool false) rfl (by kernel_rfl) (by kernel_rfl) (by kernel_rfl) (fun _ _ _ h => h) rfl (fun W1 hW1 => rfl) (KpS.refl _ _ _) ?_
                  simp only [Act.put, List.setIfInBounds_toArray, List.set_cons_zero, List.set_cons_succ]
                  refine held_takeW (i := 35) (v := .slice (some ⟨gs, 0, none⟩) l.length l.length) rfl (by kernel_rfl) (by kernel_rfl) (by kernel_rfl) (fun _ _ _ h => h) rfl (fun W1 hW1 => rfl) (KpS.refl _ _ _) ?_
                  simp only [Act.put, List.setIfInBounds_toArray, List.set_cons_zero, List.set_cons_succ]
                  refine held_takeW (i := 36) (v := .slice (some ⟨g8, off8, none⟩) ks.length c7) rfl (by kernel_rfl) (by kernel_rfl) (by kernel_rfl) (fun _ _ _ h => h) rfl (fun W1 hW1 => rfl) (KpS.refl _ _ _) ?_
                  simp only [Act.put, List.setIfInBounds_toArray, List.set_cons_zero, List.set_cons_succ]
                  refine held_takeW (i := 37) (v := .int .i64 i3) rfl (by kernel_rfl) (by kernel_rfl) (by kernel_rfl) (fun _ _ _ h => h) rfl (fun W1 hW1 => rfl) (KpS.refl _ _ _) ?_
                  simp only [Act.put, List.setIfInBounds_toArray, List.set_cons_zero, List.set_cons_succ]
                  refine held_takeW (i := 38) (v := .pointer (some ⟨g8, off8 + i3 * 3, none⟩)) rfl (by kernel_rfl) (by kernel_rfl) (by kernel_rfl) (fun _ _ _ h => h) rfl (fun W1 hW1 => by go_simp) (KpS.refl _ _ _) ?_
                  simp only [Act.put, List.setIfInBounds_toArray, List.set_cons_zero, List.set_cons_succ]
                  refine held_takeW (i := 39) (v := .pointer (some ⟨g8, off8 + i3 * 3, none⟩)) rfl (by kernel_rfl) (by kernel_rfl) (by kernel_rfl) (fun _ _ _ h => h) rfl (fun W1 hW1 => by go_simp) (KpS.refl _ _ _) ?_
                  simp only [Act.put, List.setIfInBounds_toArray, List.set_cons_zero, List.set_cons_succ]
                  refine held_takeW (i := 40) (v := .int .i64 idx[i3]) rfl (by kernel_rfl) (by kernel_rfl) (by kernel_rfl) (fun _ _ _ h => h) rfl (fun W1 hW1 => exec_load _ _ _ _ rfl rfl (run_loadCell W1 _ _ _ (d0' W1 hW1) (agg_no _ (by kernel_rfl)))) (KpS.refl _ _ _) ?_
                  simp only [Act.put, List.setIfInBounds_toArray, List.set_cons_zero, List.set_cons_succ]
                  refine held_takeW (i := 41) (v := .pointer (some ⟨gs, idx[i3], none⟩)) rfl (by kernel_rfl) (by kernel_rfl) (by kernel_rfl) (fun _ _ _ h => h) rfl (fun W1 hW1 => by go_simp) (KpS.refl _ _ _) ?_
                  simp only [Act.put, List.setIfInBounds_toArray, List.set_cons_zero, List.set_cons_succ]
                  refine held_takeW (i := 42) (v := .bool false) rfl (by kernel_rfl) (by kernel_rfl) (by kernel_rfl) (fun _ _ _ h => h) rfl (fun W1 hW1 => exec_load _ _ _ _ rfl rfl (run_loadCell W1 _ _ _ (s0' W1 hW1) (agg_no _ (by kernel_rfl)))) (KpS.refl _ _ _) ?_
                  simp only [Act.put, List.setIfInBounds_toArray, List.set_cons_zero, List.set_cons_succ]
                  refine held_take (i := 43) (v := .bool false) rfl (by kernel_rfl) (by kernel_rfl) (by kernel_rfl) (fun _ _ _ h => h) rfl (fun W1 hW1 => by go_simp) (KpS.refl _ _ _) ?_
                  simp only [Act.put, List.setIfInBounds_toArray, List.set_cons_zero, List.set_cons_succ]
                  refine wpAnyH_done (by kernel_rfl) ?_ _
                  obtain ⟨wz, hwz⟩ : ∃ z, z = wr.drew := ⟨_, rfl⟩
                  have dd0 : wz.cell? ⟨g8, off8 + i3 * 3, none⟩ = some (.int .i64 idx[i3]) := by rw [hwz]; exact d0
                  have dd1 : wz.cell? ⟨g8, off8 + i3 * 3 + 1, none⟩ = some (.int .i64 ks[i3].t) := by rw [hwz]; exact d1
                  have dd2 : wz.cell? ⟨g8, off8 + i3 * 3 + 2, none⟩ = some ks[i3].row := by rw [hwz]; exact d2
                  rw [← hwz]
                  have HWZ := hid hwz
                  clear hwz
                  have fl3 := filter_le tt (ks.take i3)
                  have tl3 : (ks.take i3).length = i3 := by rw [List.length_take]; omega
                  rw [tl3] at fl3
                  have FS := hid (filter_snoc tt ks i3 hlt3)
                  clear d0' s0' tl3 d0 d1 d2 hsc
                  by_cases ht : ks[i3].t = tt
                  · have hb : (ks[i3].t == tt) = true := by simpa using ht
                    have HF : Hid ((ks.take (i3 + 1)).filter (keepTo tt) = (ks.take i3).filter (keepTo tt)) := hid (by rw [FS.out, if_neg (by simp [keepTo, ht]), List.append_nil])
                    clear ht
                    go_wp2_with (first | (refine wpList_is rfl _ _ (exec_mgT _ _ _ rfl rfl) ?_) | fail)
                    go_roundw
                    case rel => exact ⟨i3 + 1, n3 + 1, by omega, by go_num, by rw [HF.out]; simp only [Value.int.injEq, true_and]; omega, by rw [HWZ.out, HWR.out]; rfl⟩
                    case measure => simp [intOf]; omega
                  · have hb : (ks[i3].t == tt) = false := by simpa using ht
                    have HF : Hid (((ks.take (i3 + 1)).filter (keepTo tt)).length = ((ks.take i3).filter (keepTo tt)).length + 1) := hid (by rw [FS.out, if_pos (by simp [keepTo, ht]), List.length_append]; rfl)
                    clear ht
                    go_wp2_with (first | (refine wpList_is rfl _ _ (exec_mgT _ _ _ rfl rfl) ?_) | fail)
                    go_roundw
                    case rel => exact ⟨i3 + 1, n3 + 1, by omega, by go_num, by rw [HF.out]; simp only [Value.int.injEq, true_and]; omega, by rw [HWZ.out, HWR.out]; rfl⟩
                    case measure => simp [intOf]; omega
                · have hd0 : decide ((0 : Int) < (i3 : Int)) = true := by simp; omega
                  have H0 := hid (show 0 < i3 by omega)
                  obtain ⟨hj1, e0, hinc⟩ := PREV.out (by omega)
                  have hw27 : IntKind.i64.wrap ((i3 : Int) - 1) = ((i3 - 1 : Nat) : Int) := by rw [IntKind.wrap_i64]; omega
                  have hle : decide ((idx[i3] : Int) ≤ ((idx[i3 - 1]'hj1 : Nat) : Int)) = false := by simp; omega
                  have e0' : ∀ W1, KpS [] wr.heap.size wr.drew W1 → W1.cell? ⟨g8, off8 + (i3 - 1) * 3, none⟩ = some (.int .i64 (idx[i3 - 1]'hj1)) := fun W1 h => h.cell (by rw [World.cell?_drew]; exact e0) gl8 (by simp)
                  clear h0
                  refine wp_region_any (by kernel_rfl) (wpAny_of_held (S := KpS [] wr.heap.size wr.drew) _ _ _ _ ?_)
                  change wpAnyH _ _ _ _ _ _ _ _ wr.drew
                  refine held_take (i := 0) (v := .slice (some ⟨g8, off8, none⟩) ks.length c7) rfl (by kernel_rfl) (by kernel_rfl) (by kernel_rfl) (fun _ _ _ h => h) rfl (fun W1 hW1 => rfl) (KpS.refl _ _ _) ?_
                  simp only [Act.put, List.setIfInBounds_toArray, List.set_cons_zero, List.set_cons_succ]
                  refine held_take (i := 1) (v := .int .i64 i3) rfl (by kernel_rfl) (by kernel_rfl) (by kernel_rfl) (fun _ _ _ h => h) rfl (fun W1 hW1 => rfl) (KpS.refl _ _ _) ?_
                  simp only [Act.put, List.setIfInBounds_toArray, List.set_cons_zero, List.set_cons_succ]
                  refine held_take (i := 2) (v := .pointer (some ⟨g8, off8 + i3 * 3, none⟩)) rfl (by kernel_rfl) (by kernel_rfl) (by kernel_rfl) (fun _ _ _ h => h) rfl (fun W1 hW1 => by go_simp) (KpS.refl _ _ _) ?_
                  simp only [Act.put, List.setIfInBounds_toArray, List.set_cons_zero, List.set_cons_succ]
                  refine held_take (i := 3) (v := .pointer (some ⟨g8, off8 + i3 * 3, none⟩)) rfl (by kernel_rfl) (by kernel_rfl) (by kernel_rfl) (fun _ _ _ h => h) rfl (fun W1 hW1 => by go_simp) (KpS.refl _ _ _) ?_
                  simp only [Act.put, List.setIfInBounds_toArray, List.set_cons_zero, List.set_cons_succ]
                  refine held_take (i := 4) (v := .int .i64 idx[i3]) rfl (by kernel_rfl) (by kernel_rfl) (by kernel_rfl) (fun _ _ _ h => h) rfl (fun W1 hW1 => exec_load _ _ _ _ rfl rfl (run_loadCell W1 _ _ _ (d0' W1 hW1) (agg_no _ (by kernel_rfl)))) (KpS.refl _ _ _) ?_
                  simp only [Act.put, List.setIfInBounds_toArray, List.set_cons_zero, List.set_cons_succ]
                  refine held_take (i := 5) (v := .bool false) rfl (by kernel_rfl) (by kernel_rfl) (by kernel_rfl) (fun _ _ _ h => h) rfl (fun W1 hW1 => by go_simp) (KpS.refl _ _ _) ?_
                  simp only [Act.put, List.setIfInBounds_toArray, List.set_cons_zero, List.set_cons_succ]
                  refine held_take (i := 6) (v := .bool false) rfl (by kernel_rfl) (by kernel_rfl) (by kernel_rfl) (fun _ _ _ h => h) rfl (fun W1 hW1 => rfl) (KpS.refl _ _ _) ?_
                  simp only [Act.put, List.setIfInBounds_toArray, List.set_cons_zero, List.set_cons_succ]
                  refine held_takeW (i := 7) (v := .slice (some ⟨g8, off8, none⟩) ks.length c7) rfl (by kernel_rfl) (by kernel_rfl) (by kernel_rfl) (fun _ _ _ h => h) rfl (fun W1 hW1 => rfl) (KpS.refl _ _ _) ?_
                  simp only [Act.put, List.setIfInBounds_toArray, List.set_cons_zero, List.set_cons_succ]
                  refine held_takeW (i := 8) (v := .int .i64 i3) rfl (by kernel_rfl) (by kernel_rfl) (by kernel_rfl) (fun _ _ _ h => h) rfl (fun W1 hW1 => rfl) (KpS.refl _ _ _) ?_
                  simp only [Act.put, List.setIfInBounds_toArray, List.set_cons_zero, List.set_cons_succ]
                  refine held_takeW (i := 9) (v := .pointer (some ⟨g8, off8 + i3 * 3, none⟩)) rfl (by kernel_rfl) (by kernel_rfl) (by kernel_rfl) (fun _ _ _ h => h) rfl (fun W1 hW1 => by go_simp) (KpS.refl _ _ _) ?_
                  simp only [Act.put, List.setIfInBounds_toArray, List.set_cons_zero, List.set_cons_succ]
                  refine held_takeW (i := 10) (v := .pointer (some ⟨g8, off8 + i3 * 3, none⟩)) rfl (by kernel_rfl) (by kernel_rfl) (by kernel_rfl) (fun _ _ _ h => h) rfl (fun W1 hW1 => by go_simp) (KpS.refl _ _ _) ?_
                  simp only [Act.put, List.setIfInBounds_toArray, List.set_cons_zero, List.set_cons_succ]
                  refine held_takeW (i := 11) (v := .int .i64 idx[i3]) rfl (by kernel_rfl) (by kernel_rfl) (by kernel_rfl) (fun _ _ _ h => h) rfl (fun W1 hW1 => exec_load _ _ _ _ rfl rfl (run_loadCell W1 _ _ _ (d0' W1 hW1) (agg_no _ (by kernel_rfl)))) (KpS.refl _ _ _) ?_
                  simp only [Act.put, List.setIfInBounds_toArray, List.set_cons_zero, List.set_cons_succ]
                  refine held_takeW (i := 12) (v := .slice a l.length cap) rfl (by kernel_rfl) (by kernel_rfl) (by kernel_rfl) (fun _ _ _ h => h) rfl (fun W1 hW1 => rfl) (KpS.refl _ _ _) ?_
                  simp only [Act.put, List.setIfInBounds_toArray, List.set_cons_zero, List.set_cons_succ]
                  refine held_takeW (i := 13) (v := .int .i64 l.length) rfl (by kernel_rfl) (by kernel_rfl) (by kernel_rfl) (fun _ _ _ h => h) rfl (fun W1 hW1 => by go_simp) (KpS.refl _ _ _) ?_
                  simp only [Act.put, List.setIfInBounds_toArray, List.set_cons_zero, List.set_cons_succ]
                  refine held_takeW (i := 14) (v := .bool false) rfl (by kernel_rfl) (by kernel_rfl) (by kernel_rfl) (fun _ _ _ h => h) rfl (fun W1 hW1 => by go_simp) (KpS.refl _ _ _) ?_
                  simp only [Act.put, List.setIfInBounds_toArray, List.set_cons_zero, List.set_cons_succ]
                  refine held_take (i := 15) (v := .bool false) rfl (by kernel_rfl) (by kernel_rfl) (by kernel_rfl) (fun _ _ _ h => h) rfl (fun W1 hW1 => by go_simp) (KpS.refl _ _ _) ?_
                  simp only [Act.put, List.setIfInBounds_toArray, List.set_cons_zero, List.set_cons_succ]
                  refine held_take (i := 16) (v := .bool false) rfl (by kernel_rfl) (by kernel_rfl) (by kernel_rfl) (fun _ _ _ h => h) rfl (fun W1 hW1 => rfl) (KpS.refl _ _ _) ?_
                  simp only [Act.put, List.setIfInBounds_toArray, List.set_cons_zero, List.set_cons_succ]
                  refine held_takeW (i := 17) (v := .int .i64 i3) rfl (by kernel_rfl) (by kernel_rfl) (by kernel_rfl) (fun _ _ _ h => h) rfl (fun W1 hW1 => rfl) (KpS.refl _ _ _) ?_
                  simp only [Act.put, List.setIfInBounds_toArray, List.set_cons_zero, List.set_cons_succ]
                  refine held_takeW (i := 18) (v := .bool true) rfl (by kernel_rfl) (by kernel_rfl) (by kernel_rfl) (fun _ _ _ h => h) rfl (fun W1 hW1 => by go_simp; exact H0.out) (KpS.refl _ _ _) ?_
                  simp only [Act.put, List.setIfInBounds_toArray, List.set_cons_zero, List.set_cons_succ]
                  refine held_takeW (i := 19) (v := .bool true) rfl (by kernel_rfl) (by kernel_rfl) (by kernel_rfl) (fun _ _ _ h => h) rfl (fun W1 hW1 => rfl) (KpS.refl _ _ _) ?_
                  simp only [Act.put, List.setIfInBounds_toArray, List.set_cons_zero, List.set_cons_succ]
                  refine held_takeW (i := 20) (v := .slice (some ⟨g8, off8, none⟩) ks.length c7) rfl (by kernel_rfl) (by kernel_rfl) (by kernel_rfl) (fun _ _ _ h => h) rfl (fun W1 hW1 => rfl) (KpS.refl _ _ _) ?_
                  simp only [Act.put, List.setIfInBounds_toArray, List.set_cons_zero, List.set_cons_succ]
                  refine held_takeW (i := 21) (v := .int .i64 i3) rfl (by kernel_rfl) (by kernel_rfl) (by kernel_rfl) (fun _ _ _ h => h) rfl (fun W1 hW1 => rfl) (KpS.refl _ _ _) ?_
                  simp only [Act.put, List.setIfInBounds_toArray, List.set_cons_zero, List.set_cons_succ]
                  refine held_takeW (i := 22) (v := .pointer (some ⟨g8, off8 + i3 * 3, none⟩)) rfl (by kernel_rfl) (by kernel_rfl) (by kernel_rfl) (fun _ _ _ h => h) rfl (fun W1 hW1 => by go_simp) (KpS.refl _ _ _) ?_
                  simp only [Act.put, List.setIfInBounds_toArray, List.set_cons_zero, List.set_cons_succ]
                  refine held_takeW (i := 23) (v := .pointer (some ⟨g8, off8 + i3 * 3, none⟩)) rfl (by kernel_rfl) (by kernel_rfl) (by kernel_rfl) (fun _ _ _ h => h) rfl (fun W1 hW1 => by go_simp) (KpS.refl _ _ _) ?_
                  simp only [Act.put, List.setIfInBounds_toArray, List.set_cons_zero, List.set_cons_succ]
                  refine held_takeW (i := 24) (v := .int .i64 idx[i3]) rfl (by kernel_rfl) (by kernel_rfl) (by kernel_rfl) (fun _ _ _ h => h) rfl (fun W1 hW1 => exec_load _ _ _ _ rfl rfl (run_loadCell W1 _ _ _ (d0' W1 hW1) (agg_no _ (by kernel_rfl)))) (KpS.refl _ _ _) ?_
                  simp only [Act.put, List.setIfInBounds_toArray, List.set_cons_zero, List.set_cons_succ]
                  refine held_takeW (i := 25) (v := .slice (some ⟨g8, off8, none⟩) ks.length c7) rfl (by kernel_rfl) (by kernel_rfl) (by kernel_rfl) (fun _ _ _ h => h) rfl (fun W1 hW1 => rfl) (KpS.refl _ _ _) ?_
                  simp only [Act.put, List.setIfInBounds_toArray, List.set_cons_zero, List.set_cons_succ]
                  refine held_takeW (i := 26) (v := .int .i64 i3) rfl (by kernel_rfl) (by kernel_rfl) (by kernel_rfl) (fun _ _ _ h => h) rfl (fun W1 hW1 => rfl) (KpS.refl _ _ _) ?_
                  simp only [Act.put, List.setIfInBounds_toArray, List.set_cons_zero, List.set_cons_succ]
                  refine held_takeW (i := 27) (v := .int .i64 ((i3 - 1 : Nat) : Int)) rfl (by kernel_rfl) (by kernel_rfl) (by kernel_rfl) (fun _ _ _ h => h) rfl (fun W1 hW1 => by go_simp) (KpS.refl _ _ _) ?_
                  simp only [Act.put, List.setIfInBounds_toArray, List.set_cons_zero, List.set_cons_succ]
                  refine held_takeW (i := 28) (v := .pointer (some ⟨g8, off8 + (i3 - 1) * 3, none⟩)) rfl (by kernel_rfl) (by kernel_rfl) (by kernel_rfl) (fun _ _ _ h => h) rfl (fun W1 hW1 => by go_simp; intro h28; omega) (KpS.refl _ _ _) ?_
                  simp only [Act.put, List.setIfInBounds_toArray, List.set_cons_zero, List.set_cons_succ]
                  refine held_takeW (i := 29) (v := .pointer (some ⟨g8, off8 + (i3 - 1) * 3, none⟩)) rfl (by kernel_rfl) (by kernel_rfl) (by kernel_rfl) (fun _ _ _ h => h) rfl (fun W1 hW1 => by go_simp) (KpS.refl _ _ _) ?_
                  simp only [Act.put, List.setIfInBounds_toArray, List.set_cons_zero, List.set_cons_succ]
                  refine held_takeW (i := 30) (v := .int .i64 (idx[i3 - 1]'hj1)) rfl (by kernel_rfl) (by kernel_rfl) (by kernel_rfl) (fun _ _ _ h => h) rfl (fun W1 hW1 => exec_load _ _ _ _ rfl rfl (run_loadCell W1 _ _ _ (e0' W1 hW1) (agg_no _ (by kernel_rfl)))) (KpS.refl _ _ _) ?_
                  simp only [Act.put, List.setIfInBounds_toArray, List.set_cons_zero, List.set_cons_succ]
                  refine held_takeW (i := 31) (v := .bool false) rfl (by kernel_rfl) (by kernel_rfl) (by kernel_rfl) (fun _ _ _ h => h) rfl (fun W1 hW1 => by go_simp) (KpS.refl _ _ _) ?_
                  simp only [Act.put, List.setIfInBounds_toArray, List.set_cons_zero, List.set_cons_succ]
                  refine held_takeW (i := 32) (v := .bool false) rfl (by kernel_rfl) (by kernel_rfl) (by kernel_rfl) (fun _ _ _ h => h) rfl (fun W1 hW1 => by go_simp) (KpS.refl _ _ _) ?_
                  simp only [Act.put, List.setIfInBounds_toArray, List.set_cons_zero, List.set_cons_succ]
                  refine held_take (i := 33) (v := .bool false) rfl (by kernel_rfl) (by kernel_rfl) (by kernel_rfl) (fun _ _ _ h => h) rfl (fun W1 hW1 => by go_simp) (KpS.refl _ _ _) ?_
                  simp only [Act.put, List.setIfInBounds_toArray, List.set_cons_zero, List.set_cons_succ]
                  refine held_take (i := 34) (v := .bool false) rfl (by kernel_rfl) (by kernel_rfl) (by kernel_rfl) (fun _ _ _ h => h) rfl (fun W1 hW1 => rfl) (KpS.refl _ _ _) ?_
                  simp only [Act.put, List.setIfInBounds_toArray, List.set_cons_zero, List.set_cons_succ]
                  refine held_takeW (i := 35) (v := .slice (some ⟨gs, 0, none⟩) l.length l.length) rfl (by kernel_rfl) (by kernel_rfl) (by kernel_rfl) (fun _ _ _ h => h) rfl (fun W1 hW1 => rfl) (KpS.refl _ _ _) ?_
                  simp only [Act.put, List.setIfInBounds_toArray, List.set_cons_zero, List.set_cons_succ]
                  refine held_takeW (i := 36) (v := .slice (some ⟨g8, off8, none⟩) ks.length c7) rfl (by kernel_rfl) (by kernel_rfl) (by kernel_rfl) (fun _ _ _ h => h) rfl (fun W1 hW1 => rfl) (KpS.refl _ _ _) ?_
                  simp only [Act.put, List.setIfInBounds_toArray, List.set_cons_zero, List.set_cons_succ]
                  refine held_takeW (i := 37) (v := .int .i64 i3) rfl (by kernel_rfl) (by kernel_rfl) (by kernel_rfl) (fun _ _ _ h => h) rfl (fun W1 hW1 => rfl) (KpS.refl _ _ _) ?_
                  simp only [Act.put, List.setIfInBounds_toArray, List.set_cons_zero, List.set_cons_succ]
                  refine held_takeW (i := 38) (v := .pointer (some ⟨g8, off8 + i3 * 3, none⟩)) rfl (by kernel_rfl) (by kernel_rfl) (by kernel_rfl) (fun _ _ _ h => h) rfl (fun W1 hW1 => by go_simp) (KpS.refl _ _ _) ?_
                  simp only [Act.put, List.setIfInBounds_toArray, List.set_cons_zero, List.set_cons_succ]
                  refine held_takeW (i := 39) (v := .pointer (some ⟨g8, off8 + i3 * 3, none⟩)) rfl (by kernel_rfl) (by kernel_rfl) (by kernel_rfl) (fun _ _ _ h => h) rfl (fun W1 hW1 => by go_simp) (KpS.refl _ _ _) ?_
                  simp only [Act.put, List.setIfInBounds_toArray, List.set_cons_zero, List.set_cons_succ]
                  refine held_takeW (i := 40) (v := .int .i64 idx[i3]) rfl (by kernel_rfl) (by kernel_rfl) (by kernel_rfl) (fun _ _ _ h => h) rfl (fun W1 hW1 => exec_load _ _ _ _ rfl rfl (run_loadCell W1 _ _ _ (d0' W1 hW1) (agg_no _ (by kernel_rfl)))) (KpS.refl _ _ _) ?_
                  simp only [Act.put, List.setIfInBounds_toArray, List.set_cons_zero, List.set_cons_succ]
                  refine held_takeW (i := 41) (v := .pointer (some ⟨gs, idx[i3], none⟩)) rfl (by kernel_rfl) (by kernel_rfl) (by kernel_rfl) (fun _ _ _ h => h) rfl (fun W1 hW1 => by go_simp) (KpS.refl _ _ _) ?_
                  simp only [Act.put, List.setIfInBounds_toArray, List.set_cons_zero, List.set_cons_succ]
                  refine held_takeW (i := 42) (v := .bool false) rfl (by kernel_rfl) (by kernel_rfl) (by kernel_rfl) (fun _ _ _ h => h) rfl (fun W1 hW1 => exec_load _ _ _ _ rfl rfl (run_loadCell W1 _ _ _ (s0' W1 hW1) (agg_no _ (by kernel_rfl)))) (KpS.refl _ _ _) ?_
                  simp only [Act.put, List.setIfInBounds_toArray, List.set_cons_zero, List.set_cons_succ]
                  refine held_take (i := 43) (v := .bool false) rfl (by kernel_rfl) (by kernel_rfl) (by kernel_rfl) (fun _ _ _ h => h) rfl (fun W1 hW1 => by go_simp) (KpS.refl _ _ _) ?_
                  simp only [Act.put, List.setIfInBounds_toArray, List.set_cons_zero, List.set_cons_succ]
                  refine wpAnyH_done (by kernel_rfl) ?_ _
                  obtain ⟨wz, hwz⟩ : ∃ z, z = wr.drew := ⟨_, rfl⟩
                  have dd0 : wz.cell? ⟨g8, off8 + i3 * 3, none⟩ = some (.int .i64 idx[i3]) := by rw [hwz]; exact d0
                  have dd1 : wz.cell? ⟨g8, off8 + i3 * 3 + 1, none⟩ = some (.int .i64 ks[i3].t) := by rw [hwz]; exact d1
                  have dd2 : wz.cell? ⟨g8, off8 + i3 * 3 + 2, none⟩ = some ks[i3].row := by rw [hwz]; exact d2
                  rw [← hwz]
                  have HWZ := hid hwz
                  clear hwz
                  have fl3 := filter_le tt (ks.take i3)
                  have tl3 : (ks.take i3).length = i3 := by rw [List.length_take]; omega
                  rw [tl3] at fl3
                  have FS := hid (filter_snoc tt ks i3 hlt3)
                  clear d0' s0' tl3 d0 d1 d2 hsc
                  by_cases ht : ks[i3].t = tt
                  · have hb : (ks[i3].t == tt) = true := by simpa using ht
                    have HF : Hid ((ks.take (i3 + 1)).filter (keepTo tt) = (ks.take i3).filter (keepTo tt)) := hid (by rw [FS.out, if_neg (by simp [keepTo, ht]), List.append_nil])
                    clear ht
                    go_wp2_with (first | (refine wpList_is rfl _ _ (exec_mgT _ _ _ rfl rfl) ?_) | fail)
                    go_roundw
                    case rel => exact ⟨i3 + 1, n3 + 1, by omega, by go_num, by rw [HF.out]; simp only [Value.int.injEq, true_and]; omega, by rw [HWZ.out, HWR.out]; rfl⟩
                    case measure => simp [intOf]; omega
                  · have hb : (ks[i3].t == tt) = false := by simpa using ht
                    have HF : Hid (((ks.take (i3 + 1)).filter (keepTo tt)).length = ((ks.take i3).filter (keepTo tt)).length + 1) := hid (by rw [FS.out, if_pos (by simp [keepTo, ht]), List.length_append]; rfl)
                    clear ht
                    go_wp2_with (first | (refine wpList_is rfl _ _ (exec_mgT _ _ _ rfl rfl) ?_) | fail)
                    go_roundw
                    case rel => exact ⟨i3 + 1, n3 + 1, by omega, by go_num, by rw [HF.out]; simp only [Value.int.injEq, true_and]; omega, by rw [HWZ.out, HWR.out]; rfl⟩
                    case measure => simp [intOf]; omega
              · obtain rfl : i3 = ks.length := by omega
                rw [List.take_length]
                have FE := con_len (filter_con tt HC7.out)
                have fl3 := filter_le tt ks
                have heq : (((ks.filter (keepTo tt)).length : Int) == (ks.length : Int) - ((ks.length : Int) - (ks.filter (keepTo tt)).length)) = true := by simp; omega
                have hff : ((ms1.filter (keepTo tt)).filter (keepTo tt)).length = (ms1.filter (keepTo tt)).length := by rw [List.filter_filter]; simp
                have HFF := hid hff
                have HFE := hid FE
                clear hlt3 hff FE
                go_wp2_with fail
                refine (bDropF T8.out.b tt).mono ?_
                rintro e w9 ⟨rfl, F9, b9, k9, f9⟩
                have B9 := hid b9
                have K9 := hid (T8.out.k.ofNew k9 T8.out.nF)
                have N9 := hid (f9.newF T8.out.nF T8.out.k.size)
                clear b9 k9 f9
                rw [← HFE.out, ← LK.out]
                go_wp2_with fail
                refine (bLenF B9.out).mono ?_
                rintro e _ ⟨rfl, rfl⟩
                rw [← HFE.out]
                go_wp2_with fail
                refine (bDropF B9.out tt).mono ?_
                rintro e w10 ⟨rfl, F10, b10, k10, f10⟩
                have K10 := hid (K9.out.ofNew k10 N9.out)
                clear b10 k10 f10
                rw [HFF.out, Int.sub_self]
                go_wp2_with fail
                go_ret
                exact ⟨rfl, K10.out⟩
          · go_wp2_with fail
            refine (bAllF T.out.b).mono ?_
            rintro e w7 ⟨a7, c7, g7, ks, rfl, o7, hc7, hg7, k7⟩
            have few7 := T.out.b.few
            have LK := hid (con_len hc7)
            have T7 := hid (T.out.later k7)
            have O7 := hid o7
            have HC7 := hid hc7
            have LEN7 := hid T.out.len
            rw [← con_len hc7] at few7
            rw [← con_len hc7] at O7 ⊢
            clear o7 hc7 hg7 k7
            go_wp2_with fail
            go_loopw [9, 17] (fun mv iv wr2 => ∃ i3 n3 : Nat, i3 ≤ ks.length ∧ iv = .int .i64 i3 ∧ mv = .int .i64 ((i3 : Int) - ((ks.take i3).filter (keepTo tt)).length) ∧ wr2 = w7.drewN n3) (fun _ iv _ => ks.length - (intOf iv).toNat)
            case atStart => exact ⟨0, 0, by omega, rfl, by simp, rfl⟩
            case round =>
              obtain ⟨i3, n3, hi3, rfl, rfl, rfl⟩ := hrel
              have kk3 := (Keeps.refl [] w7).drewN n3
              have T8 := hid (T7.out.later kk3)
              by_cases hlt3 : i3 < ks.length
              · have hj : i3 < idx.length := by have := LK.out; have := LEN7.out; omega
                have hm3 : i3 < ms1.length := by have := LK.out; omega
                obtain ⟨g8, off8, ha8, -, gl8, d0, d1, d2⟩ := (O7.out.later kk3).at.at i3 hlt3
                have hx := T7.out.lt idx[i3] (List.getElem_mem _)
                have hks := (con_at HC7.out i3 hlt3 hm3).trans (T7.out.tag hm3 hj)
                rw [tg_at hx] at hks
                simp only [con, Prod.mk.injEq] at hks
                rw [hks.1] at d0
                have hmem : idx[i3] ∈ idx := List.getElem_mem _
                have hsc : (w7.drewN n3).cell? ⟨gs, idx[i3], none⟩ = some (.bool false) := by
                  rw [World.ownsRow.cellAt T8.out.seen idx[i3] (by omega)]
                  simp [hx, hmem]
                have gsl := (T8.out.seen.lt gs rfl).2
                have PREV : Hid (0 < i3 → ∃ hj1 : i3 - 1 < idx.length, (w7.drewN n3).cell? ⟨g8, off8 + (i3 - 1) * 3, none⟩ = some (.int .i64 (idx[i3 - 1]'hj1)) ∧ idx[i3 - 1]'hj1 < idx[i3]) := hid fun h0 => by
                  have hlt4 : i3 - 1 < ks.length := by omega
                  have hm4 : i3 - 1 < ms1.length := by omega
                  have hj1 : i3 - 1 < idx.length := by omega
                  obtain ⟨g9, off9, ha9, -, -, e0, -, -⟩ := (O7.out.later kk3).at.at (i3 - 1) hlt4
                  rw [ha8] at ha9
                  have e9 := Option.some.inj ha9
                  injection e9 with e91 e92 _
                  have hk9 := (con_at HC7.out (i3 - 1) hlt4 hm4).trans (T7.out.tag hm4 hj1)
                  rw [tg_at (T7.out.lt _ (List.getElem_mem hj1))] at hk9
                  simp only [con, Prod.mk.injEq] at hk9
                  rw [hk9.1, ← e91, ← e92] at e0
                  exact ⟨hj1, e0, List.pairwise_iff_getElem.1 T7.out.inc (i3 - 1) i3 hj1 hj (by omega)⟩
                subst ha8
                obtain ⟨wr, hwr⟩ : ∃ z, z = w7.drewN n3 := ⟨_, rfl⟩
                rw [← hwr] at d0 d1 d2 hsc gsl gl8 PREV T8 ⊢
                have HWR := hid hwr
                have hx0 : decide ((idx[i3] : Int) < 0) = false := by simp
                have hxn : decide ((l.length : Int) ≤ (idx[i3] : Int)) = false := by simp; omega
                clear hks hmem hwr kk3
                go_wp2_with fail
                have d0' : ∀ W1, KpS [] wr.heap.size wr.drew W1 → W1.cell? ⟨g8, off8 + i3 * 3, none⟩ = some (.int .i64 idx[i3]) := fun W1 h => h.cell (by rw [World.cell?_drew]; exact d0) gl8 (by simp)
                have s0' : ∀ W1, KpS [] wr.heap.size wr.drew W1 → W1.cell? ⟨gs, idx[i3], none⟩ = some (.bool false) := fun W1 h => h.cell (by rw [World.cell?_drew]; exact hsc) gsl (by simp)
                by_cases h0 : i3 = 0
                · have hd0 : decide ((0 : Int) < (i3 : Int)) = false := by simp; omega
                  have H0 := hid h0
                  clear h0
                  refine wp_region_any (by kernel_rfl) (wpAny_of_held (S := KpS [] wr.heap.size wr.drew) _ _ _ _ ?_)
                  change wpAnyH _ _ _ _ _ _ _ _ wr.drew
                  refine held_take (i := 0) (v := .slice (some ⟨g8, off8, none⟩) ks.length c7) rfl (by kernel_rfl) (by kernel_rfl) (by kernel_rfl) (fun _ _ _ h => h) rfl (fun W1 hW1 => rfl) (KpS.refl _ _ _) ?_
                  simp only [Act.put, List.setIfInBounds_toArray, List.set_cons_zero, List.set_cons_succ]
                  refine held_take (i := 1) (v := .int .i64 i3) rfl (by kernel_rfl) (by kernel_rfl) (by kernel_rfl) (fun _ _ _ h => h) rfl (fun W1 hW1 => rfl) (KpS.refl _ _ _) ?_
                  simp only [Act.put, List.setIfInBounds_toArray, List.set_cons_zero, List.set_cons_succ]
                  refine held_take (i := 2) (v := .pointer (some ⟨g8, off8 + i3 * 3, none⟩)) rfl (by kernel_rfl) (by kernel_rfl) (by kernel_rfl) (fun _ _ _ h => h) rfl (fun W1 hW1 => by go_simp) (KpS.refl _ _ _) ?_
                  simp only [Act.put, List.setIfInBounds_toArray, List.set_cons_zero, List.set_cons_succ]
                  refine held_take (i := 3) (v := .pointer (some ⟨g8, off8 + i3 * 3, none⟩)) rfl (by kernel_rfl) (by kernel_rfl) (by kernel_rfl) (fun _ _ _ h => h) rfl (fun W1 hW1 => by go_simp) (KpS.refl _ _ _) ?_
                  simp only [Act.put, List.setIfInBounds_toArray, List.set_cons_zero, List.set_cons_succ]
                  refine held_take (i := 4) (v := .int .i64 idx[i3]) rfl (by kernel_rfl) (by kernel_rfl) (by kernel_rfl) (fun _ _ _ h => h) rfl (fun W1 hW1 => exec_load _ _ _ _ rfl rfl (run_loadCell W1 _ _ _ (d0' W1 hW1) (agg_no _ (by kernel_rfl)))) (KpS.refl _ _ _) ?_
                  simp only [Act.put, List.setIfInBounds_toArray, List.set_cons_zero, List.set_cons_succ]
                  refine held_take (i := 5) (v := .bool false) rfl (by kernel_rfl) (by kernel_rfl) (by kernel_rfl) (fun _ _ _ h => h) rfl (fun W1 hW1 => by go_simp) (KpS.refl _ _ _) ?_
                  simp only [Act.put, List.setIfInBounds_toArray, List.set_cons_zero, List.set_cons_succ]
                  refine held_take (i := 6) (v := .bool false) rfl (by kernel_rfl) (by kernel_rfl) (by kernel_rfl) (fun _ _ _ h => h) rfl (fun W1 hW1 => rfl) (KpS.refl _ _ _) ?_
                  simp only [Act.put, List.setIfInBounds_toArray, List.set_cons_zero, List.set_cons_succ]
                  refine held_takeW (i := 7) (v := .slice (some ⟨g8, off8, none⟩) ks.length c7) rfl (by kernel_rfl) (by kernel_rfl) (by kernel_rfl) (fun _ _ _ h => h) rfl (fun W1 hW1 => rfl) (KpS.refl _ _ _) ?_
                  simp only [Act.put, List.setIfInBounds_toArray, List.set_cons_zero, List.set_cons_succ]
                  refine held_takeW (i := 8) (v := .int .i64 i3) rfl (by kernel_rfl) (by kernel_rfl) (by kernel_rfl) (fun _ _ _ h => h) rfl (fun W1 hW1 => rfl) (KpS.refl _ _ _) ?_
                  simp only [Act.put, List.setIfInBounds_toArray, List.set_cons_zero, List.set_cons_succ]
                  refine held_takeW (i := 9) (v := .pointer (some ⟨g8, off8 + i3 * 3, none⟩)) rfl (by kernel_rfl) (by kernel_rfl) (by kernel_rfl) (fun _ _ _ h => h) rfl (fun W1 hW1 => by go_simp) (KpS.refl _ _ _) ?_
                  simp only [Act.put, List.setIfInBounds_toArray, List.set_cons_zero, List.set_cons_succ]
                  refine held_takeW (i := 10) (v := .pointer (some ⟨g8, off8 + i3 * 3, none⟩)) rfl (by kernel_rfl) (by kernel_rfl) (by kernel_rfl) (fun _ _ _ h => h) rfl (fun W1 hW1 => by go_simp) (KpS.refl _ _ _) ?_
                  simp only [Act.put, List.setIfInBounds_toArray, List.set_cons_zero, List.set_cons_succ]
                  refine held_takeW (i := 11) (v := .int .i64 idx[i3]) rfl (by kernel_rfl) (by kernel_rfl) (by kernel_rfl) (fun _ _ _ h => h) rfl (fun W1 hW1 => exec_load _ _ _ _ rfl rfl (run_loadCell W1 _ _ _ (d0' W1 hW1) (agg_no _ (by kernel_rfl)))) (KpS.refl _ _ _) ?_
                  simp only [Act.put, List.setIfInBounds_toArray, List.set_cons_zero, List.set_cons_succ]
                  refine held_takeW (i := 12) (v := .slice a l.length cap) rfl (by kernel_rfl) (by kernel_rfl) (by kernel_rfl) (fun _ _ _ h => h) rfl (fun W1 hW1 => rfl) (KpS.refl _ _ _) ?_
                  simp only [Act.put, List.setIfInBounds_toArray, List.set_cons_zero, List.set_cons_succ]
                  refine held_takeW (i := 13) (v := .int .i64 l.length) rfl (by kernel_rfl) (by kernel_rfl) (by kernel_rfl) (fun _ _ _ h => h) rfl (fun W1 hW1 => by go_simp) (KpS.refl _ _ _) ?_
                  simp only [Act.put, List.setIfInBounds_toArray, List.set_cons_zero, List.set_cons_succ]
                  refine held_takeW (i := 14) (v := .bool false) rfl (by kernel_rfl) (by kernel_rfl) (by kernel_rfl) (fun _ _ _ h => h) rfl (fun W1 hW1 => by go_simp) (KpS.refl _ _ _) ?_
                  simp only [Act.put, List.setIfInBounds_toArray, List.set_cons_zero, List.set_cons_succ]
                  refine held_take (i := 15) (v := .bool false) rfl (by kernel_rfl) (by kernel_rfl) (by kernel_rfl) (fun _ _ _ h => h) rfl (fun W1 hW1 => by go_simp) (KpS.refl _ _ _) ?_
                  simp only [Act.put, List.setIfInBounds_toArray, List.set_cons_zero, List.set_cons_succ]
                  refine held_take (i := 16) (v := .bool false) rfl (by kernel_rfl) (by kernel_rfl) (by kernel_rfl) (fun _ _ _ h => h) rfl (fun W1 hW1 => rfl) (KpS.refl _ _ _) ?_
                  simp only [Act.put, List.setIfInBounds_toArray, List.set_cons_zero, List.set_cons_succ]
                  refine held_takeW (i := 17) (v := .int .i64 i3) rfl (by kernel_rfl) (by kernel_rfl) (by kernel_rfl) (fun _ _ _ h => h) rfl (fun W1 hW1 => rfl) (KpS.refl _ _ _) ?_
                  simp only [Act.put, List.setIfInBounds_toArray, List.set_cons_zero, List.set_cons_succ]
                  refine held_takeW (i := 18) (v := .bool false) rfl (by kernel_rfl) (by kernel_rfl) (by kernel_rfl) (fun _ _ _ h => h) rfl (fun W1 hW1 => by go_simp; exact H0.out) (KpS.refl _ _ _) ?_
                  simp only [Act.put, List.setIfInBounds_toArray, List.set_cons_zero, List.set_cons_succ]
                  refine held_takeW (i := 19) (v := .bool false) rfl (by kernel_rfl) (by kernel_rfl) (by kernel_rfl) (fun _ _ _ h => h) rfl (fun W1 hW1 => rfl) (KpS.refl _ _ _) ?_
                  simp only [Act.put, List.setIfInBounds_toArray, List.set_cons_zero, List.set_cons_succ]
                  refine held_skip (i := 20) rfl (by kernel_rfl) (by kernel_rfl) (by kernel_rfl) (fun _ _ _ h => h) rfl (KpS.refl _ _ _) ?_
                  simp only [Act.put, List.setIfInBounds_toArray, List.set_cons_zero, List.set_cons_succ]
                  refine held_skip (i := 21) rfl (by kernel_rfl) (by kernel_rfl) (by kernel_rfl) (fun _ _ _ h => h) rfl (KpS.refl _ _ _) ?_
                  simp only [Act.put, List.setIfInBounds_toArray, List.set_cons_zero, List.set_cons_succ]
                  refine held_skip (i := 22) rfl (by kernel_rfl) (by kernel_rfl) (by kernel_rfl) (fun _ _ _ h => h) rfl (KpS.refl _ _ _) ?_
                  simp only [Act.put, List.setIfInBounds_toArray, List.set_cons_zero, List.set_cons_succ]
                  refine held_skip (i := 23) rfl (by kernel_rfl) (by kernel_rfl) (by kernel_rfl) (fun _ _ _ h => h) rfl (KpS.refl _ _ _) ?_
                  simp only [Act.put, List.setIfInBounds_toArray, List.set_cons_zero, List.set_cons_succ]
                  refine held_skip (i := 24) rfl (by kernel_rfl) (by kernel_rfl) (by kernel_rfl) (fun _ _ _ h => h) rfl (KpS.refl _ _ _) ?_
                  simp only [Act.put, List.setIfInBounds_toArray, List.set_cons_zero, List.set_cons_succ]
                  refine held_skip (i := 25) rfl (by kernel_rfl) (by kernel_rfl) (by kernel_rfl) (fun _ _ _ h => h) rfl (KpS.refl _ _ _) ?_
                  simp only [Act.put, List.setIfInBounds_toArray, List.set_cons_zero, List.set_cons_succ]
                  refine held_skip (i := 26) rfl (by kernel_rfl) (by kernel_rfl) (by kernel_rfl) (fun _ _ _ h => h) rfl (KpS.refl _ _ _) ?_
                  simp only [Act.put, List.setIfInBounds_toArray, List.set_cons_zero, List.set_cons_succ]
                  refine held_skip (i := 27) rfl (by kernel_rfl) (by kernel_rfl) (by kernel_rfl) (fun _ _ _ h => h) rfl (KpS.refl _ _ _) ?_
                  simp only [Act.put, List.setIfInBounds_toArray, List.set_cons_zero, List.set_cons_succ]
                  refine held_skip (i := 28) rfl (by kernel_rfl) (by kernel_rfl) (by kernel_rfl) (fun _ _ _ h => h) rfl (KpS.refl _ _ _) ?_
                  simp only [Act.put, List.setIfInBounds_toArray, List.set_cons_zero, List.set_cons_succ]
                  refine held_skip (i := 29) rfl (by kernel_rfl) (by kernel_rfl) (by kernel_rfl) (fun _ _ _ h => h) rfl (KpS.refl _ _ _) ?_
                  simp only [Act.put, List.setIfInBounds_toArray, List.set_cons_zero, List.set_cons_succ]
                  refine held_skip (i := 30) rfl (by kernel_rfl) (by kernel_rfl) (by kernel_rfl) (fun _ _ _ h => h) rfl (KpS.refl _ _ _) ?_
                  simp only [Act.put, List.setIfInBounds_toArray, List.set_cons_zero, List.set_cons_succ]
                  refine held_skip (i := 31) rfl (by kernel_rfl) (by kernel_rfl) (by kernel_rfl) (fun _ _ _ h => h) rfl (KpS.refl _ _ _) ?_
                  simp only [Act.put, List.setIfInBounds_toArray, List.set_cons_zero, List.set_cons_succ]
                  refine held_takeW (i := 32) (v := .bool false) rfl (by kernel_rfl) (by kernel_rfl) (by kernel_rfl) (fun _ _ _ h => h) rfl (fun W1 hW1 => by go_simp) (KpS.refl _ _ _) ?_
                  simp only [Act.put, List.setIfInBounds_toArray, List.set_cons_zero, List.set_cons_succ]
                  refine held_take (i := 33) (v := .bool false) rfl (by kernel_rfl) (by kernel_rfl) (by kernel_rfl) (fun _ _ _ h => h) rfl (fun W1 hW1 => by go_simp) (KpS.refl _ _ _) ?_
                  simp only [Act.put, List.setIfInBounds_toArray, List.set_cons_zero, List.set_cons_succ]
                  refine held_take (i := 34) (v := .bool false) rfl (by kernel_rfl) (by kernel_rfl) (by kernel_rfl) (fun _ _ _ h => h) rfl (fun W1 hW1 => rfl) (KpS.refl _ _ _) ?_
                  simp only [Act.put, List.setIfInBounds_toArray, List.set_cons_zero, List.set_cons_succ]
                  refine held_takeW (i := 35) (v := .slice (some ⟨gs, 0, none⟩) l.length l.length) rfl (by kernel_rfl) (by kernel_rfl) (by kernel_rfl) (fun _ _ _ h => h) rfl (fun W1 hW1 => rfl) (KpS.refl _ _ _) ?_
                  simp only [Act.put, List.setIfInBounds_toArray, List.set_cons_zero, List.set_cons_succ]
                  refine held_takeW (i := 36) (v := .slice (some ⟨g8, off8, none⟩) ks.length c7) rfl (by kernel_rfl) (by kernel_rfl) (by kernel_rfl) (fun _ _ _ h => h) rfl (fun W1 hW1 => rfl) (KpS.refl _ _ _) ?_
                  simp only [Act.put, List.setIfInBounds_toArray, List.set_cons_zero, List.set_cons_succ]
                  refine held_takeW (i := 37) (v := .int .i64 i3) rfl (by kernel_rfl) (by kernel_rfl) (by kernel_rfl) (fun _ _ _ h => h) rfl (fun W1 hW1 => rfl) (KpS.refl _ _ _) ?_
                  simp only [Act.put, List.setIfInBounds_toArray, List.set_cons_zero, List.set_cons_succ]
                  refine held_takeW (i := 38) (v := .pointer (some ⟨g8, off8 + i3 * 3, none⟩)) rfl (by kernel_rfl) (by kernel_rfl) (by kernel_rfl) (fun _ _ _ h => h) rfl (fun W1 hW1 => by go_simp) (KpS.refl _ _ _) ?_
                  simp only [Act.put, List.setIfInBounds_toArray, List.set_cons_zero, List.set_cons_succ]
                  refine held_takeW (i := 39) (v := .pointer (some ⟨g8, off8 + i3 * 3, none⟩)) rfl (by kernel_rfl) (by kernel_rfl) (by kernel_rfl) (fun _ _ _ h => h) rfl (fun W1 hW1 => by go_simp) (KpS.refl _ _ _) ?_
                  simp only [Act.put, List.setIfInBounds_toArray, List.set_cons_zero, List.set_cons_succ]
                  refine held_takeW (i := 40) (v := .int .i64 idx[i3]) rfl (by kernel_rfl) (by kernel_rfl) (by kernel_rfl) (fun _ _ _ h => h) rfl (fun W1 hW1 => exec_load _ _ _ _ rfl rfl (run_loadCell W1 _ _ _ (d0' W1 hW1) (agg_no _ (by kernel_rfl)))) (KpS.refl _ _ _) ?_
                  simp only [Act.put, List.setIfInBounds_toArray, List.set_cons_zero, List.set_cons_succ]
                  refine held_takeW (i := 41) (v := .pointer (some ⟨gs, idx[i3], none⟩)) rfl (by kernel_rfl) (by kernel_rfl) (by kernel_rfl) (fun _ _ _ h => h) rfl (fun W1 hW1 => by go_simp) (KpS.refl _ _ _) ?_
                  simp only [Act.put, List.setIfInBounds_toArray, List.set_cons_zero, List.set_cons_succ]
                  refine held_takeW (i := 42) (v := .bool false) rfl (by kernel_rfl) (by kernel_rfl) (by kernel_rfl) (fun _ _ _ h => h) rfl (fun W1 hW1 => exec_load _ _ _ _ rfl rfl (run_loadCell W1 _ _ _ (s0' W1 hW1) (agg_no _ (by kernel_rfl)))) (KpS.refl _ _ _) ?_
                  simp only [Act.put, List.setIfInBounds_toArray, List.set_cons_zero, List.set_cons_succ]
                  refine held_take (i := 43) (v := .bool false) rfl (by kernel_rfl) (by kernel_rfl) (by kernel_rfl) (fun _ _ _ h => h) rfl (fun W1 hW1 => by go_simp) (KpS.refl _ _ _) ?_
                  simp only [Act.put, List.setIfInBounds_toArray, List.set_cons_zero, List.set_cons_succ]
                  refine wpAnyH_done (by kernel_rfl) ?_ _
                  obtain ⟨wz, hwz⟩ : ∃ z, z = wr.drew := ⟨_, rfl⟩
                  have dd0 : wz.cell? ⟨g8, off8 + i3 * 3, none⟩ = some (.int .i64 idx[i3]) := by rw [hwz]; exact d0
                  have dd1 : wz.cell? ⟨g8, off8 + i3 * 3 + 1, none⟩ = some (.int .i64 ks[i3].t) := by rw [hwz]; exact d1
                  have dd2 : wz.cell? ⟨g8, off8 + i3 * 3 + 2, none⟩ = some ks[i3].row := by rw [hwz]; exact d2
                  rw [← hwz]
                  have HWZ := hid hwz
                  clear hwz
                  have fl3 := filter_le tt (ks.take i3)
                  have tl3 : (ks.take i3).length = i3 := by rw [List.length_take]; omega
                  rw [tl3] at fl3
                  have FS := hid (filter_snoc tt ks i3 hlt3)
                  clear d0' s0' tl3 d0 d1 d2 hsc
                  by_cases ht : ks[i3].t = tt
                  · have hb : (ks[i3].t == tt) = true := by simpa using ht
                    have HF : Hid ((ks.take (i3 + 1)).filter (keepTo tt) = (ks.take i3).filter (keepTo tt)) := hid (by rw [FS.out, if_neg (by simp [keepTo, ht]), List.append_nil])
                    clear ht
                    go_wp2_with (first | (refine wpList_is rfl _ _ (exec_mgT _ _ _ rfl rfl) ?_) | fail)
                    go_roundw
                    case rel => exact ⟨i3 + 1, n3 + 1, by omega, by go_num, by rw [HF.out]; simp only [Value.int.injEq, true_and]; omega, by rw [HWZ.out, HWR.out]; rfl⟩
                    case measure => simp [intOf]; omega
                  · have hb : (ks[i3].t == tt) = false := by simpa using ht
                    have HF : Hid (((ks.take (i3 + 1)).filter (keepTo tt)).length = ((ks.take i3).filter (keepTo tt)).length + 1) := hid (by rw [FS.out, if_pos (by simp [keepTo, ht]), List.length_append]; rfl)
                    clear ht
                    go_wp2_with (first | (refine wpList_is rfl _ _ (exec_mgT _ _ _ rfl rfl) ?_) | fail)
                    go_roundw
                    case rel => exact ⟨i3 + 1, n3 + 1, by omega, by go_num, by rw [HF.out]; simp only [Value.int.injEq, true_and]; omega, by rw [HWZ.out, HWR.out]; rfl⟩
                    case measure => simp [intOf]; omega
                · have hd0 : decide ((0 : Int) < (i3 : Int)) = true := by simp; omega
                  have H0 := hid (show 0 < i3 by omega)
                  obtain ⟨hj1, e0, hinc⟩ := PREV.out (by omega)
                  have hw27 : IntKind.i64.wrap ((i3 : Int) - 1) = ((i3 - 1 : Nat) : Int) := by rw [IntKind.wrap_i64]; omega
                  have hle : decide ((idx[i3] : Int) ≤ ((idx[i3 - 1]'hj1 : Nat) : Int)) = false := by simp; omega
                  have e0' : ∀ W1, KpS [] wr.heap.size wr.drew W1 → W1.cell? ⟨g8, off8 + (i3 - 1) * 3, none⟩ = some (.int .i64 (idx[i3 - 1]'hj1)) := fun W1 h => h.cell (by rw [World.cell?_drew]; exact e0) gl8 (by simp)
                  clear h0
                  refine wp_region_any (by kernel_rfl) (wpAny_of_held (S := KpS [] wr.heap.size wr.drew) _ _ _ _ ?_)
                  change wpAnyH _ _ _ _ _ _ _ _ wr.drew
                  refine held_take (i := 0) (v := .slice (some ⟨g8, off8, none⟩) ks.length c7) rfl (by kernel_rfl) (by kernel_rfl) (by kernel_rfl) (fun _ _ _ h => h) rfl (fun W1 hW1 => rfl) (KpS.refl _ _ _) ?_
                  simp only [Act.put, List.setIfInBounds_toArray, List.set_cons_zero, List.set_cons_succ]
                  refine held_take (i := 1) (v := .int .i64 i3) rfl (by kernel_rfl) (by kernel_rfl) (by kernel_rfl) (fun _ _ _ h => h) rfl (fun W1 hW1 => rfl) (KpS.refl _ _ _) ?_
                  simp only [Act.put, List.setIfInBounds_toArray, List.set_cons_zero, List.set_cons_succ]
                  refine held_take (i := 2) (v := .pointer (some ⟨g8, off8 + i3 * 3, none⟩)) rfl (by kernel_rfl) (by kernel_rfl) (by kernel_rfl) (fun _ _ _ h => h) rfl (fun W1 hW1 => by go_simp) (KpS.refl _ _ _) ?_
                  simp only [Act.put, List.setIfInBounds_toArray, List.set_cons_zero, List.set_cons_succ]
                  refine held_take (i := 3) (v := .pointer (some ⟨g8, off8 + i3 * 3, none⟩)) rfl (by kernel_rfl) (by kernel_rfl) (by kernel_rfl) (fun _ _ _ h => h) rfl (fun W1 hW1 => by go_simp) (KpS.refl _ _ _) ?_
                  simp only [Act.put, List.setIfInBounds_toArray, List.set_cons_zero, List.set_cons_succ]
                  refine held_take (i := 4) (v := .int .i64 idx[i3]) rfl (by kernel_rfl) (by kernel_rfl) (by kernel_rfl) (fun _ _ _ h => h) rfl (fun W1 hW1 => exec_load _ _ _ _ rfl rfl (run_loadCell W1 _ _ _ (d0' W1 hW1) (agg_no _ (by kernel_rfl)))) (KpS.refl _ _ _) ?_
                  simp only [Act.put, List.setIfInBounds_toArray, List.set_cons_zero, List.set_cons_succ]
                  refine held_take (i := 5) (v := .bool false) rfl (by kernel_rfl) (by kernel_rfl) (by kernel_rfl) (fun _ _ _ h => h) rfl (fun W1 hW1 => by go_simp) (KpS.refl _ _ _) ?_
                  simp only [Act.put, List.setIfInBounds_toArray, List.set_cons_zero, List.set_cons_succ]
                  refine held_take (i := 6) (v := .bool false) rfl (by kernel_rfl) (by kernel_rfl) (by kernel_rfl) (fun _ _ _ h => h) rfl (fun W1 hW1 => rfl) (KpS.refl _ _ _) ?_
                  simp only [Act.put, List.setIfInBounds_toArray, List.set_cons_zero, List.set_cons_succ]
                  refine held_takeW (i := 7) (v := .slice (some ⟨g8, off8, none⟩) ks.length c7) rfl (by kernel_rfl) (by kernel_rfl) (by kernel_rfl) (fun _ _ _ h => h) rfl (fun W1 hW1 => rfl) (KpS.refl _ _ _) ?_
                  simp only [Act.put, List.setIfInBounds_toArray, List.set_cons_zero, List.set_cons_succ]
                  refine held_takeW (i := 8) (v := .int .i64 i3) rfl (by kernel_rfl) (by kernel_rfl) (by kernel_rfl) (fun _ _ _ h => h) rfl (fun W1 hW1 => rfl) (KpS.refl _ _ _) ?_
                  simp only [Act.put, List.setIfInBounds_toArray, List.set_cons_zero, List.set_cons_succ]
                  refine held_takeW (i := 9) (v := .pointer (some ⟨g8, off8 + i3 * 3, none⟩)) rfl (by kernel_rfl) (by kernel_rfl) (by kernel_rfl) (fun _ _ _ h => h) rfl (fun W1 hW1 => by go_simp) (KpS.refl _ _ _) ?_
                  simp only [Act.put, List.setIfInBounds_toArray, List.set_cons_zero, List.set_cons_succ]
                  refine held_takeW (i := 10) (v := .pointer (some ⟨g8, off8 + i3 * 3, none⟩)) rfl (by kernel_rfl) (by kernel_rfl) (by kernel_rfl) (fun _ _ _ h => h) rfl (fun W1 hW1 => by go_simp) (KpS.refl _ _ _) ?_
                  simp only [Act.put, List.setIfInBounds_toArray, List.set_cons_zero, List.set_cons_succ]
                  refine held_takeW (i := 11) (v := .int .i64 idx[i3]) rfl (by kernel_rfl) (by kernel_rfl) (by kernel_rfl) (fun _ _ _ h => h) rfl (fun W1 hW1 => exec_load _ _ _ _ rfl rfl (run_loadCell W1 _ _ _ (d0' W1 hW1) (agg_no _ (by kernel_rfl)))) (KpS.refl _ _ _) ?_
                  simp only [Act.put, List.setIfInBounds_toArray, List.set_cons_zero, List.set_cons_succ]
                  refine held_takeW (i := 12) (v := .slice a l.length cap) rfl (by kernel_rfl) (by kernel_rfl) (by kernel_rfl) (fun _ _ _ h => h) rfl (fun W1 hW1 => rfl) (KpS.refl _ _ _) ?_
                  simp only [Act.put, List.setIfInBounds_toArray, List.set_cons_zero, List.set_cons_succ]
                  refine held_takeW (i := 13) (v := .int .i64 l.length) rfl (by kernel_rfl) (by kernel_rfl) (by kernel_rfl) (fun _ _ _ h => h) rfl (fun W1 hW1 => by go_simp) (KpS.refl _ _ _) ?_
                  simp only [Act.put, List.setIfInBounds_toArray, List.set_cons_zero, List.set_cons_succ]
                  refine held_takeW (i := 14) (v := .bool false) rfl (by kernel_rfl) (by kernel_rfl) (by kernel_rfl) (fun _ _ _ h => h) rfl (fun W1 hW1 => by go_simp) (KpS.refl _ _ _) ?_
                  simp only [Act.put, List.setIfInBounds_toArray, List.set_cons_zero, List.set_cons_succ]
                  refine held_take (i := 15) (v := .bool false) rfl (by kernel_rfl) (by kernel_rfl) (by kernel_rfl) (fun _ _ _ h => h) rfl (fun W1 hW1 => by go_simp) (KpS.refl _ _ _) ?_
                  simp only [Act.put, List.setIfInBounds_toArray, List.set_cons_zero, List.set_cons_succ]
                  refine held_take (i := 16) (v := .bool false) rfl (by kernel_rfl) (by kernel_rfl) (by kernel_rfl) (fun _ _ _ h => h) rfl (fun W1 hW1 => rfl) (KpS.refl _ _ _) ?_
                  simp only [Act.put, List.setIfInBounds_toArray, List.set_cons_zero, List.set_cons_succ]
                  refine held_takeW (i := 17) (v := .int .i64 i3) rfl (by kernel_rfl) (by kernel_rfl) (by kernel_rfl) (fun _ _ _ h => h) rfl (fun W1 hW1 => rfl) (KpS.refl _ _ _) ?_
                  simp only [Act.put, List.setIfInBounds_toArray, List.set_cons_zero, List.set_cons_succ]
                  refine held_takeW (i := 18) (v := .bool true) rfl (by kernel_rfl) (by kernel_rfl) (by kernel_rfl) (fun _ _ _ h => h) rfl (fun W1 hW1 => by go_simp; exact H0.out) (KpS.refl _ _ _) ?_
                  simp only [Act.put, List.setIfInBounds_toArray, List.set_cons_zero, List.set_cons_succ]
                  refine held_takeW (i := 19) (v := .bool true) rfl (by kernel_rfl) (by kernel_rfl) (by kernel_rfl) (fun _ _ _ h => h) rfl (fun W1 hW1 => rfl) (KpS.refl _ _ _) ?_
                  simp only [Act.put, List.setIfInBounds_toArray, List.set_cons_zero, List.set_cons_succ]
                  refine held_takeW (i := 20) (v := .slice (some ⟨g8, off8, none⟩) ks.length c7) rfl (by kernel_rfl) (by kernel_rfl) (by kernel_rfl) (fun _ _ _ h => h) rfl (fun W1 hW1 => rfl) (KpS.refl _ _ _) ?_
                  simp only [Act.put, List.setIfInBounds_toArray, List.set_cons_zero, List.set_cons_succ]
                  refine held_takeW (i := 21) (v := .int .i64 i3) rfl (by kernel_rfl) (by kernel_rfl) (by kernel_rfl) (fun _ _ _ h => h) rfl (fun W1 hW1 => rfl) (KpS.refl _ _ _) ?_
                  simp only [Act.put, List.setIfInBounds_toArray, List.set_cons_zero, List.set_cons_succ]
                  refine held_takeW (i := 22) (v := .pointer (some ⟨g8, off8 + i3 * 3, none⟩)) rfl (by kernel_rfl) (by kernel_rfl) (by kernel_rfl) (fun _ _ _ h => h) rfl (fun W1 hW1 => by go_simp) (KpS.refl _ _ _) ?_
                  simp only [Act.put, List.setIfInBounds_toArray, List.set_cons_zero, List.set_cons_succ]
                  refine held_takeW (i := 23) (v := .pointer (some ⟨g8, off8 + i3 * 3, none⟩)) rfl (by kernel_rfl) (by kernel_rfl) (by kernel_rfl) (fun _ _ _ h => h) rfl (fun W1 hW1 => by go_simp) (KpS.refl _ _ _) ?_
                  simp only [Act.put, List.setIfInBounds_toArray, List.set_cons_zero, List.set_cons_succ]
                  refine held_takeW (i := 24) (v := .int .i64 idx[i3]) rfl (by kernel_rfl) (by kernel_rfl) (by kernel_rfl) (fun _ _ _ h => h) rfl (fun W1 hW1 => exec_load _ _ _ _ rfl rfl (run_loadCell W1 _ _ _ (d0' W1 hW1) (agg_no _ (by kernel_rfl)))) (KpS.refl _ _ _) ?_
                  simp only [Act.put, List.setIfInBounds_toArray, List.set_cons_zero, List.set_cons_succ]
                  refine held_takeW (i := 25) (v := .slice (some ⟨g8, off8, none⟩) ks.length c7) rfl (by kernel_rfl) (by kernel_rfl) (by kernel_rfl) (fun _ _ _ h => h) rfl (fun W1 hW1 => rfl) (KpS.refl _ _ _) ?_
                  simp only [Act.put, List.setIfInBounds_toArray, List.set_cons_zero, List.set_cons_succ]
                  refine held_takeW (i := 26) (v := .int .i64 i3) rfl (by kernel_rfl) (by kernel_rfl) (by kernel_rfl) (fun _ _ _ h => h) rfl (fun W1 hW1 => rfl) (KpS.refl _ _ _) ?_
                  simp only [Act.put, List.setIfInBounds_toArray, List.set_cons_zero, List.set_cons_succ]
                  refine held_takeW (i := 27) (v := .int .i64 ((i3 - 1 : Nat) : Int)) rfl (by kernel_rfl) (by kernel_rfl) (by kernel_rfl) (fun _ _ _ h => h) rfl (fun W1 hW1 => by go_simp) (KpS.refl _ _ _) ?_
                  simp only [Act.put, List.setIfInBounds_toArray, List.set_cons_zero, List.set_cons_succ]
                  refine held_takeW (i := 28) (v := .pointer (some ⟨g8, off8 + (i3 - 1) * 3, none⟩)) rfl (by kernel_rfl) (by kernel_rfl) (by kernel_rfl) (fun _ _ _ h => h) rfl (fun W1 hW1 => by go_simp; intro h28; omega) (KpS.refl _ _ _) ?_
                  simp only [Act.put, List.setIfInBounds_toArray, List.set_cons_zero, List.set_cons_succ]
                  refine held_takeW (i := 29) (v := .pointer (some ⟨g8, off8 + (i3 - 1) * 3, none⟩)) rfl (by kernel_rfl) (by kernel_rfl) (by kernel_rfl) (fun _ _ _ h => h) rfl (fun W1 hW1 => by go_simp) (KpS.refl _ _ _) ?_
                  simp only [Act.put, List.setIfInBounds_toArray, List.set_cons_zero, List.set_cons_succ]
                  refine held_takeW (i := 30) (v := .int .i64 (idx[i3 - 1]'hj1)) rfl (by kernel_rfl) (by kernel_rfl) (by kernel_rfl) (fun _ _ _ h => h) rfl (fun W1 hW1 => exec_load _ _ _ _ rfl rfl (run_loadCell W1 _ _ _ (e0' W1 hW1) (agg_no _ (by kernel_rfl)))) (KpS.refl _ _ _) ?_
                  simp only [Act.put, List.setIfInBounds_toArray, List.set_cons_zero, List.set_cons_succ]
                  refine held_takeW (i := 31) (v := .bool false) rfl (by kernel_rfl) (by kernel_rfl) (by kernel_rfl) (fun _ _ _ h => h) rfl (fun W1 hW1 => by go_simp) (KpS.refl _ _ _) ?_
                  simp only [Act.put, List.setIfInBounds_toArray, List.set_cons_zero, List.set_cons_succ]
                  refine held_takeW (i := 32) (v := .bool false) rfl (by kernel_rfl) (by kernel_rfl) (by kernel_rfl) (fun _ _ _ h => h) rfl (fun W1 hW1 => by go_simp) (KpS.refl _ _ _) ?_
                  simp only [Act.put, List.setIfInBounds_toArray, List.set_cons_zero, List.set_cons_succ]
                  refine held_take (i := 33) (v := .bool false) rfl (by kernel_rfl) (by kernel_rfl) (by kernel_rfl) (fun _ _ _ h => h) rfl (fun W1 hW1 => by go_simp) (KpS.refl _ _ _) ?_
                  simp only [Act.put, List.setIfInBounds_toArray, List.set_cons_zero, List.set_cons_succ]
                  refine held_take (i := 34) (v := .bool false) rfl (by kernel_rfl) (by kernel_rfl) (by kernel_rfl) (fun _ _ _ h => h) rfl (fun W1 hW1 => rfl) (KpS.refl _ _ _) ?_
                  simp only [Act.put, List.setIfInBounds_toArray, List.set_cons_zero, List.set_cons_succ]
                  refine held_takeW (i := 35) (v := .slice (some ⟨gs, 0, none⟩) l.length l.length) rfl (by kernel_rfl) (by kernel_rfl) (by kernel_rfl) (fun _ _ _ h => h) rfl (fun W1 hW1 => rfl) (KpS.refl _ _ _) ?_
                  simp only [Act.put, List.setIfInBounds_toArray, List.set_cons_zero, List.set_cons_succ]
                  refine held_takeW (i := 36) (v := .slice (some ⟨g8, off8, none⟩) ks.length c7) rfl (by kernel_rfl) (by kernel_rfl) (by kernel_rfl) (fun _ _ _ h => h) rfl (fun W1 hW1 => rfl) (KpS.refl _ _ _) ?_
                  simp only [Act.put, List.setIfInBounds_toArray, List.set_cons_zero, List.set_cons_succ]
                  refine held_takeW (i := 37) (v := .int .i64 i3) rfl (by kernel_rfl) (by kernel_rfl) (by kernel_rfl) (fun _ _ _ h => h) rfl (fun W1 hW1 => rfl) (KpS.refl _ _ _) ?_
                  simp only [Act.put, List.setIfInBounds_toArray, List.set_cons_zero, List.set_cons_succ]
                  refine held_takeW (i := 38) (v := .pointer (some ⟨g8, off8 + i3 * 3, none⟩)) rfl (by kernel_rfl) (by kernel_rfl) (by kernel_rfl) (fun _ _ _ h => h) rfl (fun W1 hW1 => by go_simp) (KpS.refl _ _ _) ?_
                  simp only [Act.put, List.setIfInBounds_toArray, List.set_cons_zero, List.set_cons_succ]
                  refine held_takeW (i := 39) (v := .pointer (some ⟨g8, off8 + i3 * 3, none⟩)) rfl (by kernel_rfl) (by kernel_rfl) (by kernel_rfl) (fun _ _ _ h => h) rfl (fun W1 hW1 => by go_simp) (KpS.refl _ _ _) ?_
                  simp only [Act.put, List.setIfInBounds_toArray, List.set_cons_zero, List.set_cons_succ]
                  refine held_takeW (i := 40) (v := .int .i64 idx[i3]) rfl (by kernel_rfl) (by kernel_rfl) (by kernel_rfl) (fun _ _ _ h => h) rfl (fun W1 hW1 => exec_load _ _ _ _ rfl rfl (run_loadCell W1 _ _ _ (d0' W1 hW1) (agg_no _ (by kernel_rfl)))) (KpS.refl _ _ _) ?_
                  simp only [Act.put, List.setIfInBounds_toArray, List.set_cons_zero, List.set_cons_succ]
                  refine held_takeW (i := 41) (v := .pointer (some ⟨gs, idx[i3], none⟩)) rfl (by kernel_rfl) (by kernel_rfl) (by kernel_rfl) (fun _ _ _ h => h) rfl (fun W1 hW1 => by go_simp) (KpS.refl _ _ _) ?_
                  simp only [Act.put, List.setIfInBounds_toArray, List.set_cons_zero, List.set_cons_succ]
                  refine held_takeW (i := 42) (v := .bool false) rfl (by kernel_rfl) (by kernel_rfl) (by kernel_rfl) (fun _ _ _ h => h) rfl (fun W1 hW1 => exec_load _ _ _ _ rfl rfl (run_loadCell W1 _ _ _ (s0' W1 hW1) (agg_no _ (by kernel_rfl)))) (KpS.refl _ _ _) ?_
                  simp only [Act.put, List.setIfInBounds_toArray, List.set_cons_zero, List.set_cons_succ]
                  refine held_take (i := 43) (v := .bool false) rfl (by kernel_rfl) (by kernel_rfl) (by kernel_rfl) (fun _ _ _ h => h) rfl (fun W1 hW1 => by go_simp) (KpS.refl _ _ _) ?_
                  simp only [Act.put, List.setIfInBounds_toArray, List.set_cons_zero, List.set_cons_succ]
                  refine wpAnyH_done (by kernel_rfl) ?_ _
                  obtain ⟨wz, hwz⟩ : ∃ z, z = wr.drew := ⟨_, rfl⟩
                  have dd0 : wz.cell? ⟨g8, off8 + i3 * 3, none⟩ = some (.int .i64 idx[i3]) := by rw [hwz]; exact d0
                  have dd1 : wz.cell? ⟨g8, off8 + i3 * 3 + 1, none⟩ = some (.int .i64 ks[i3].t) := by rw [hwz]; exact d1
                  have dd2 : wz.cell? ⟨g8, off8 + i3 * 3 + 2, none⟩ = some ks[i3].row := by rw [hwz]; exact d2
                  rw [← hwz]
                  have HWZ := hid hwz
                  clear hwz
                  have fl3 := filter_le tt (ks.take i3)
                  have tl3 : (ks.take i3).length = i3 := by rw [List.length_take]; omega
                  rw [tl3] at fl3
                  have FS := hid (filter_snoc tt ks i3 hlt3)
                  clear d0' s0' tl3 d0 d1 d2 hsc
                  by_cases ht : ks[i3].t = tt
                  · have hb : (ks[i3].t == tt) = true := by simpa using ht
                    have HF : Hid ((ks.take (i3 + 1)).filter (keepTo tt) = (ks.take i3).filter (keepTo tt)) := hid (by rw [FS.out, if_neg (by simp [keepTo, ht]), List.append_nil])
                    clear ht
                    go_wp2_with (first | (refine wpList_is rfl _ _ (exec_mgT _ _ _ rfl rfl) ?_) | fail)
                    go_roundw
                    case rel => exact ⟨i3 + 1, n3 + 1, by omega, by go_num, by rw [HF.out]; simp only [Value.int.injEq, true_and]; omega, by rw [HWZ.out, HWR.out]; rfl⟩
                    case measure => simp [intOf]; omega
                  · have hb : (ks[i3].t == tt) = false := by simpa using ht
                    have HF : Hid (((ks.take (i3 + 1)).filter (keepTo tt)).length = ((ks.take i3).filter (keepTo tt)).length + 1) := hid (by rw [FS.out, if_pos (by simp [keepTo, ht]), List.length_append]; rfl)
                    clear ht
                    go_wp2_with (first | (refine wpList_is rfl _ _ (exec_mgT _ _ _ rfl rfl) ?_) | fail)
                    go_roundw
                    case rel => exact ⟨i3 + 1, n3 + 1, by omega, by go_num, by rw [HF.out]; simp only [Value.int.injEq, true_and]; omega, by rw [HWZ.out, HWR.out]; rfl⟩
                    case measure => simp [intOf]; omega
              · obtain rfl : i3 = ks.length := by omega
                rw [List.take_length]
                have FE := con_len (filter_con tt HC7.out)
                have fl3 := filter_le tt ks
                have heq : (((ks.filter (keepTo tt)).length : Int) == (ks.length : Int) - ((ks.length : Int) - (ks.filter (keepTo tt)).length)) = true := by simp; omega
                have hff : ((ms1.filter (keepTo tt)).filter (keepTo tt)).length = (ms1.filter (keepTo tt)).length := by rw [List.filter_filter]; simp
                have HFF := hid hff
                have HFE := hid FE
                clear hlt3 hff FE
                go_wp2_with fail
                refine (bDropF T8.out.b tt).mono ?_
                rintro e w9 ⟨rfl, F9, b9, k9, f9⟩
                have B9 := hid b9
                have K9 := hid (T8.out.k.ofNew k9 T8.out.nF)
                have N9 := hid (f9.newF T8.out.nF T8.out.k.size)
                clear b9 k9 f9
                rw [← HFE.out, ← LK.out]
                go_wp2_with fail
                refine (bLenF B9.out).mono ?_
                rintro e _ ⟨rfl, rfl⟩
                rw [← HFE.out]
                go_wp2_with fail
                refine (bDropF B9.out tt).mono ?_
                rintro e w10 ⟨rfl, F10, b10, k10, f10⟩
                have K10 := hid (K9.out.ofNew k10 N9.out)
                clear b10 k10 f10
                rw [HFF.out, Int.sub_self]
                go_wp2_with fail
                go_ret
                exact ⟨rfl, K10.out⟩
end Go.Proofs.Ytkfebgbgnpdgpaa
