/- Slots do not hear of one another (the law SlotApart): for every input the law returns true. No condition. First the walk, then the law. -/
import Derived.Test.YtpnckjfmiobobaaSlP
import Derived.Deep.OwnRows
namespace Go.Proofs.Ytpnckjfmiobobaa
open Go.RowKit Go.Shelf

theorem infoRow : (Try.prog.info? 28).map (fun i => (i.zero, i.size, i.bytes)) = some (some (.slice none 0 0), 1, 24) := by kernel_rfl
theorem infoBool : (Try.prog.info? 4).map (fun i => (i.zero, i.size, i.bytes)) = some (some (.bool false), 1, 1) := by kernel_rfl
theorem made5w : madeCells #[Value.slice none 0 0] 5 = (row5 fun _ => Value.slice none 0 0).toArray := by
  apply Array.ext'
  rw [toList_madeCells_one]
  rfl
theorem made5u : madeCells #[Value.bool false] 5 = (row5 fun k => Value.bool ((List.replicate 5 hd0).getD k hd0).used).toArray := by
  apply Array.ext'
  rw [toList_madeCells_one]
  rfl
theorem hs5 : List.replicate 5 hd0 = [hd0, hd0, hd0, hd0, hd0] := rfl

set_option maxRecDepth 100000 in
set_option maxHeartbeats 12800000 in
theorem apart_any (w : World) (v : Value) (ds : List D5) (h : D5sAt w v ds) : Calls Try.prog 12 #[v] w fun e w' => e = .returned (.bool true) ∧ Keeps [] w w' := by
  have H := hid h
  obtain ⟨a, cap, rfl, hh⟩ := id h
  have mkW : ∀ w, (Instr.makeSlice 46 (.int .i64 5) (.int .i64 5)).run Try.prog w = .ok (.slice (some ⟨w.heap.size, 0, none⟩) 5 5) (w.alloc (.cells (madeCells #[.slice none 0 0] 5) 28)) := fun w =>
    run_make_row' (P := Try.prog) 46 28 (.slice none 0 0) 24 Try.underlying46 infoRow rfl .i64 .i64 5 (by omega) (by omega) w
  have mkU : ∀ w, (Instr.makeSlice 57 (.int .i64 5) (.int .i64 5)).run Try.prog w = .ok (.slice (some ⟨w.heap.size, 0, none⟩) 5 5) (w.alloc (.cells (madeCells #[.bool false] 5) 4)) := fun w =>
    run_make_row' (P := Try.prog) 57 4 (.bool false) 1 Try.underlying57 infoBool rfl .i64 .i64 5 (by omega) (by omega) w
  clear hh h
  go_enter Try.func12, Try.ntmps12
  go_wp2_with fail
  refine (awake5_any w).mono ?_
  rintro e w0 ⟨rfl, k0⟩
  have K0 := hid k0
  have H0 := hid (H.out.keep k0)
  clear k0
  go_wp2_with fail
  refine (room5_any w0 _ ds H0.out 60 (by omega)).mono ?_
  rintro e _ ⟨rb, rfl, rfl, hroom⟩
  cases rb with
  | false =>
    go_wp2_with fail
    go_ret
    exact ⟨rfl, K0.out⟩
  | true =>
    have RM := hid (hroom rfl)
    clear hroom
    go_wp2_with fail
    refine (newAt_any 41 (by omega) (by omega) w0).mono ?_
    rintro e w1 ⟨p, F1, rfl, d1, l1, k1⟩
    have D1 := hid d1
    have L1 := hid l1
    have K1 := hid k1
    clear d1 l1 k1
    go_wp2_with fail
    refine (lOpen_good w1 p (blankS 41) F1 0 D1.out 1 5 (by show 1 ≤ 41; omega) rfl rfl (blank_good 41 1 5)).mono ?_
    rintro e w2 ⟨q, g, rfl, H2, n1, n2, k2⟩
    rw [blank_heads] at H2
    have S2 : Hid (SlNew w0 w2 q p g 1 (List.replicate 5 hd0) (blankS 41) F1 0) := hid ⟨H2, ⟨by have := K1.out.size; omega, by have := K1.out.size; omega, L1.out⟩, K1.out.trans k2⟩
    clear H2 n1 n2 k2 D1 L1 K1
    go_wp2_with fail
    refine (lCount_any w2 q p g 1 _ S2.out.at_.sl).mono ?_
    rintro e _ ⟨rfl, rfl⟩
    rw [List.length_replicate]
    go_wp2_with fail
    have zA : ((w2.alloc (.cells (madeCells #[.slice none 0 0] 5) 28)).alloc (.cells (madeCells #[.bool false] 5) 4)).heap.size = w2.heap.size + 2 := by simp
    have gA := heap_alloc2_old w2 (.cells (madeCells #[.slice none 0 0] 5) 28) (.cells (madeCells #[.bool false] 5) 4)
    have bA := heap_alloc2_new w2 (.cells (madeCells #[.slice none 0 0] 5) 28) (.cells (madeCells #[.bool false] 5) 4)
    have kA : Keeps [] w2 ((w2.alloc (.cells (madeCells #[.slice none 0 0] 5) 28)).alloc (.cells (madeCells #[.bool false] 5) 4)) := ((Keeps.refl [] w2).alloc _).alloc _
    have A0 : Ap w0 ((w2.alloc (.cells (madeCells #[.slice none 0 0] 5) 28)).alloc (.cells (madeCells #[.bool false] 5) 4)) q p g w2.heap.size (w2.heap.size + 1) (List.replicate 5 hd0) (blankS 41) F1 0 (fun _ => []) (fun _ => .slice none 0 0) := by
      have hz := S2.out.kept.size
      have hlt := S2.out.at_.sl.ltq
      have hlt2 := S2.out.at_.sl.ltg
      refine ⟨S2.out.keep kA, rfl, rfl, Reads.blank 41 1 5 (by omega) _, by rw [gA, made5w], by rw [bA, made5u], fun k hk hu => ?_, fun k _ => ⟨_, _, _, rfl⟩, by omega, fun b hb => ⟨fun hm => ?_, by rcases hb with rfl | rfl <;> omega⟩⟩
      · rw [show (List.replicate 5 hd0).getD k hd0 = hd0 by rw [List.getD_eq_getElem?_getD, List.getElem?_replicate, if_pos hk]; rfl] at hu
        cases hu
      · obtain ⟨m, dm⟩ := S2.out.at_.dk.dm
        have := dm.lt _ hm
        rcases hb with rfl | rfl <;> omega
    have AA := hid A0
    clear gA bA kA A0 S2 zA
    generalize (w2.alloc (.cells (madeCells #[.slice none 0 0] 5) 28)).alloc (.cells (madeCells #[.bool false] 5) 4) = w3 at AA ⊢
    generalize w2.heap.size + 1 = gu at AA ⊢
    generalize w2.heap.size = gw at AA ⊢
    go_loopw [9] (fun i wr => ∃ (k : Nat) (hs : List Hd) (s : DS) (F : List Nat) (want : Nat → List Int) (wv : Nat → Value), k ≤ ds.length ∧ i = .int .i64 k ∧ Ap w0 wr q p g gw gu hs s F (k * 80) want wv) (fun i _ => ds.length - (intOf i).toNat)
    case atStart => exact ⟨0, _, _, _, _, _, by omega, rfl, by rw [Nat.zero_mul]; exact AA.out⟩
    case round =>
      obtain ⟨k, hs, s, F, want, wv, hk, rfl, ha⟩ := hrel
      have A := hid ha
      clear ha
      by_cases hlt : k < ds.length
      · have hlt' : (k : Int) < (ds.length : Int) := by omega
        obtain ⟨dg, off, dcap, hde, hcp, hd⟩ : ∃ dg off dcap, a = some ⟨dg, off, none⟩ ∧ cap = dcap ∧ ∀ i (h : i < ds.length), D5At w0 dg (off + i * 5) ds[i] := by
          obtain ⟨a', c', e, _, _, _, h3⟩ := H0.out
          obtain ⟨g', o', rfl, h4⟩ := h3 (by rintro rfl; simp at hlt)
          injection e with e1 _ e2
          exact ⟨g', o', c', e1, e2, h4⟩
        subst hde
        subst hcp
        have DD := hid ((hd k hlt).keep A.out.sl.kept)
        have DD0 := hid (hd k hlt)
        have hmem : ds[k] ∈ ds := List.getElem_mem hlt
        have hdgw : dg < w0.heap.size := World.block_lt_of_cell? w0 _ (hd k hlt).c0
        generalize ds[k] = d at DD DD0 hmem
        have hr := RM.out.2 d hmem
        have c0 := DD.out.c0
        have c1 := DD.out.c1
        have b1 := DD.out.b1
        obtain ⟨kk, hkk, hke⟩ := mod5 d.i
        have hk5 : kk < hs.length := by rw [A.out.five]; exact hkk
        have hkt : (kk : Int) < 5 := by omega
        have hzr := A.out.sl.kept.size
        have hq0 := A.out.sl.new
        obtain ⟨ka, kc, hkv, -⟩ := DD.out.rk
        obtain ⟨ba, bc, hbv, -⟩ := DD.out.rb
        have ek : hs.getD kk hd0 = hs[kk] := by rw [List.getD_eq_getElem?_getD, List.getElem?_eq_getElem hk5]; rfl
        have EK := hid ek
        clear hd hmem ek
        have hDk : k * 80 ≤ 60 * 80 := by have := RM.out.1; omega
        by_cases hdo : d.act ≤ 4
        · have hdo6 : ¬ d.act = 6 := by omega
          have hd6 : (d.act == 6) = false := by simpa using hdo6
          go_wp2_with fail
          refine wp_region_any (by kernel_rfl) (wpAny_of_held (S := KpS (g :: F) wr.heap.size wr.drew) _ _ _ _ ?_)
          change wpAnyH _ _ _ _ _ _ _ _ wr.drew
          have dF : dg ∉ g :: F := fun hm => by
            rcases List.mem_cons.1 hm with hm | hm
            · omega
            · have := hq0.2.2 _ hm; omega
          have cD : ∀ W1, KpS (g :: F) wr.heap.size wr.drew W1 → ∀ j u, wr.cell? ⟨dg, off + k * 5 + j, none⟩ = some u → W1.cell? ⟨dg, off + k * 5 + j, none⟩ = some u := fun W1 h j u hu => h.cell (by rw [World.cell?_drew]; exact hu) (by omega) dF
          refine held_take (i := 0) (v := .slice (some ⟨dg, off, none⟩) ds.length cap) rfl (by kernel_rfl) (by kernel_rfl) (by kernel_rfl) (fun _ _ _ h => h) rfl (fun W1 hW1 => rfl) (KpS.refl _ _ _) ?_
          simp only [Act.put, List.setIfInBounds_toArray, List.set_cons_zero, List.set_cons_succ]
          refine held_take (i := 1) (v := .int .i64 k) rfl (by kernel_rfl) (by kernel_rfl) (by kernel_rfl) (fun _ _ _ h => h) rfl (fun W1 hW1 => rfl) (KpS.refl _ _ _) ?_
          simp only [Act.put, List.setIfInBounds_toArray, List.set_cons_zero, List.set_cons_succ]
          refine held_take (i := 2) (v := .pointer (some ⟨dg, off + k * 5, none⟩)) rfl (by kernel_rfl) (by kernel_rfl) (by kernel_rfl) (fun _ _ _ h => h) rfl (fun W1 hW1 => by go_simp) (KpS.refl _ _ _) ?_
          simp only [Act.put, List.setIfInBounds_toArray, List.set_cons_zero, List.set_cons_succ]
          refine held_take (i := 3) (v := .pointer (some ⟨dg, off + k * 5, none⟩)) rfl (by kernel_rfl) (by kernel_rfl) (by kernel_rfl) (fun _ _ _ h => h) rfl (fun W1 hW1 => by go_simp) (KpS.refl _ _ _) ?_
          simp only [Act.put, List.setIfInBounds_toArray, List.set_cons_zero, List.set_cons_succ]
          refine held_take (i := 4) (v := .int .i64 d.act) rfl (by kernel_rfl) (by kernel_rfl) (by kernel_rfl) (fun _ _ _ h => h) rfl (fun W1 hW1 => exec_load _ _ _ _ rfl rfl (run_loadCell W1 _ _ _ (cD W1 hW1 0 _ c0) (agg_no _ (by kernel_rfl)))) (KpS.refl _ _ _) ?_
          simp only [Act.put, List.setIfInBounds_toArray, List.set_cons_zero, List.set_cons_succ]
          refine held_take (i := 5) (v := .bool true) rfl (by kernel_rfl) (by kernel_rfl) (by kernel_rfl) (fun _ _ _ h => h) rfl (fun W1 hW1 => by go_simp) (KpS.refl _ _ _) ?_
          simp only [Act.put, List.setIfInBounds_toArray, List.set_cons_zero, List.set_cons_succ]
          refine held_take (i := 6) (v := .bool true) rfl (by kernel_rfl) (by kernel_rfl) (by kernel_rfl) (fun _ _ _ h => h) rfl (fun W1 hW1 => rfl) (KpS.refl _ _ _) ?_
          simp only [Act.put, List.setIfInBounds_toArray, List.set_cons_zero, List.set_cons_succ]
          refine held_takeW (i := 7) (v := .pointer (some ⟨q, 0, none⟩)) rfl (by kernel_rfl) (by kernel_rfl) (by kernel_rfl) (fun _ _ _ h => h) rfl (fun W1 hW1 => rfl) (KpS.refl _ _ _) ?_
          simp only [Act.put, List.setIfInBounds_toArray, List.set_cons_zero, List.set_cons_succ]
          refine held_takeW (i := 8) (v := .int .i64 kk) rfl (by kernel_rfl) (by kernel_rfl) (by kernel_rfl) (fun _ _ _ h => h) rfl (fun W1 hW1 => rfl) (KpS.refl _ _ _) ?_
          simp only [Act.put, List.setIfInBounds_toArray, List.set_cons_zero, List.set_cons_succ]
          refine held_takeW (i := 9) (v := .slice (some ⟨dg, off, none⟩) ds.length cap) rfl (by kernel_rfl) (by kernel_rfl) (by kernel_rfl) (fun _ _ _ h => h) rfl (fun W1 hW1 => rfl) (KpS.refl _ _ _) ?_
          simp only [Act.put, List.setIfInBounds_toArray, List.set_cons_zero, List.set_cons_succ]
          refine held_takeW (i := 10) (v := .int .i64 k) rfl (by kernel_rfl) (by kernel_rfl) (by kernel_rfl) (fun _ _ _ h => h) rfl (fun W1 hW1 => rfl) (KpS.refl _ _ _) ?_
          simp only [Act.put, List.setIfInBounds_toArray, List.set_cons_zero, List.set_cons_succ]
          refine held_takeW (i := 11) (v := .pointer (some ⟨dg, off + k * 5, none⟩)) rfl (by kernel_rfl) (by kernel_rfl) (by kernel_rfl) (fun _ _ _ h => h) rfl (fun W1 hW1 => by go_simp) (KpS.refl _ _ _) ?_
          simp only [Act.put, List.setIfInBounds_toArray, List.set_cons_zero, List.set_cons_succ]
          refine held_takeW (i := 12) (v := .pointer (some ⟨dg, off + k * 5 + 3, none⟩)) rfl (by kernel_rfl) (by kernel_rfl) (by kernel_rfl) (fun _ _ _ h => h) rfl (fun W1 hW1 => by go_simp) (KpS.refl _ _ _) ?_
          simp only [Act.put, List.setIfInBounds_toArray, List.set_cons_zero, List.set_cons_succ]
          refine held_takeW (i := 13) (v := d.kv) rfl (by kernel_rfl) (by kernel_rfl) (by kernel_rfl) (fun _ _ _ h => h) rfl (fun W1 hW1 => exec_load _ _ _ _ rfl rfl (run_loadCell W1 _ _ _ (cD W1 hW1 3 _ DD.out.c3) (agg_no _ (by kernel_rfl)))) (KpS.refl _ _ _) ?_
          simp only [Act.put, List.setIfInBounds_toArray, List.set_cons_zero, List.set_cons_succ]
          refine held_takeW (i := 14) (v := .slice (some ⟨dg, off, none⟩) ds.length cap) rfl (by kernel_rfl) (by kernel_rfl) (by kernel_rfl) (fun _ _ _ h => h) rfl (fun W1 hW1 => rfl) (KpS.refl _ _ _) ?_
          simp only [Act.put, List.setIfInBounds_toArray, List.set_cons_zero, List.set_cons_succ]
          refine held_takeW (i := 15) (v := .int .i64 k) rfl (by kernel_rfl) (by kernel_rfl) (by kernel_rfl) (fun _ _ _ h => h) rfl (fun W1 hW1 => rfl) (KpS.refl _ _ _) ?_
          simp only [Act.put, List.setIfInBounds_toArray, List.set_cons_zero, List.set_cons_succ]
          refine held_takeW (i := 16) (v := .pointer (some ⟨dg, off + k * 5, none⟩)) rfl (by kernel_rfl) (by kernel_rfl) (by kernel_rfl) (fun _ _ _ h => h) rfl (fun W1 hW1 => by go_simp) (KpS.refl _ _ _) ?_
          simp only [Act.put, List.setIfInBounds_toArray, List.set_cons_zero, List.set_cons_succ]
          refine held_takeW (i := 17) (v := .pointer (some ⟨dg, off + k * 5 + 4, none⟩)) rfl (by kernel_rfl) (by kernel_rfl) (by kernel_rfl) (fun _ _ _ h => h) rfl (fun W1 hW1 => by go_simp) (KpS.refl _ _ _) ?_
          simp only [Act.put, List.setIfInBounds_toArray, List.set_cons_zero, List.set_cons_succ]
          refine held_takeW (i := 18) (v := d.bv) rfl (by kernel_rfl) (by kernel_rfl) (by kernel_rfl) (fun _ _ _ h => h) rfl (fun W1 hW1 => exec_load _ _ _ _ rfl rfl (run_loadCell W1 _ _ _ (cD W1 hW1 4 _ DD.out.c4) (agg_no _ (by kernel_rfl)))) (KpS.refl _ _ _) ?_
          simp only [Act.put, List.setIfInBounds_toArray, List.set_cons_zero, List.set_cons_succ]
          have AD := A.out.keep (Keeps.refl [] wr).drew
          have DDr := DD.out.keep (Keeps.refl [] wr).drew
          have offK : Off F d.kv d.key := A.out.sl.off DD0.out.rk
          have offB : Off F d.bv d.b := A.out.sl.off DD0.out.rb
          refine held_doW (i := 19) (by kernel_rfl) rfl rfl (wp_enter (f := 35) (args := #[.pointer (some ⟨q, 0, none⟩), .int .i64 kk, d.kv, d.bv]) (by go_simp) (lPut_any wr.drew q p g 1 hs s F (k * 80) AD.sl.at_ (by omega) (kk : Int) d.kv d.key DDr.rk offK d.bv d.b DDr.rb offB) ?_)
          intro e w4 hp
          have hp2 := hp
          obtain ⟨_, F0, _, kp, _⟩ := hp2
          obtain ⟨rfl, F4, n4, u4, v4, o4⟩ := AD.post hp
          have kk4 : KpS (g :: F) wr.heap.size wr.drew w4 := (KpS.refl _ _ _).keeps kp (Nat.le_refl _) (fun i hi _ => hi)
          refine ⟨_, rfl, kk4, ?_⟩
          simp only [Act.put, List.setIfInBounds_toArray, List.set_cons_zero, List.set_cons_succ]
          have c04 : w4.cell? ⟨dg, off + k * 5, none⟩ = some (.int .i64 d.act) := cD w4 kk4 0 _ c0
          have c44 : w4.cell? ⟨dg, off + k * 5 + 4, none⟩ = some d.bv := cD w4 kk4 4 _ DD.out.c4
          rw [hbv] at c44
          rcases put_eff A.out.rd kk hk5 d.key d.b DD0.out.rk.bytes DD0.out.rb.bytes with ⟨p1, p2, p3, p4⟩ | ⟨p1, p2, p3⟩
          · rw [p1]
            refine held_takeW (i := 20) (v := .bool true) rfl (by kernel_rfl) (by kernel_rfl) (by kernel_rfl) (fun _ _ _ h => h) rfl (fun W1 hW1 => by go_simp) (kk4) ?_
            simp only [Act.put, List.setIfInBounds_toArray, List.set_cons_zero, List.set_cons_succ]
            refine held_take (i := 21) (v := .bool true) rfl (by kernel_rfl) (by kernel_rfl) (by kernel_rfl) (fun _ _ _ h => h) rfl (fun W1 hW1 => by go_simp) (kk4) ?_
            simp only [Act.put, List.setIfInBounds_toArray, List.set_cons_zero, List.set_cons_succ]
            refine wpAnyH_done (by kernel_rfl) ?_ _
            have cu4 : w4.cell? ⟨gu, kk, none⟩ = some (.bool false) := by rw [cell_of_row _ _ kk _ _ (0, 0) v4, row5_at _ _ hkk, EK.out, p2]
            have fu4 : w4.frozen? ⟨gu, kk, none⟩ = false := by simp [World.frozen?, v4]
            have fw4 : (w4.setCell ⟨gu, kk, none⟩ (.bool true)).frozen? ⟨gw, kk, none⟩ = false := by
              simp [World.frozen?, (Below.heap_setCell w4 ⟨gu, kk, none⟩ (.bool true) gw A.out.new.2.2).trans u4]
            obtain ⟨sa, sn, sc, hsl⟩ := A.out.sli kk hkk
            have cw4 : (w4.setCell ⟨gu, kk, none⟩ (.bool true)).cell? ⟨gw, kk, none⟩ = some (.slice sa sn sc) := by
              rw [cell_of_row _ _ kk _ _ (0, 0) ((Below.heap_setCell w4 ⟨gu, kk, none⟩ (.bool true) gw A.out.new.2.2).trans u4), row5_at _ _ hkk, hsl]
            have hdgu : dg ≠ gu := by have := A.out.new.2.1; omega
            have hdgw2 : dg ≠ gw := by have := A.out.new.1; omega
            have c05 : ((w4.setCell ⟨gu, kk, none⟩ (.bool true)).setCell ⟨gw, kk, none⟩ d.bv).cell? ⟨dg, off + k * 5, none⟩ = some (.int .i64 d.act) := by
              rw [World.cell?_of_block (w := w4) ((Below.heap_setCell _ _ _ _ hdgw2).trans (Below.heap_setCell _ _ _ _ hdgu))]
              exact c04
            rw [hbv] at c05
            have NEW : Hid (Ap w0 ((w4.setCell ⟨gu, kk, none⟩ (.bool true)).setCell ⟨gw, kk, none⟩ d.bv) q p g gw gu (putH hs 1 s kk d.key d.b) (putS hs 1 s kk d.key d.b) F4 ((k + 1) * 80) (upd want kk d.b) (upd wv kk d.bv)) := hid (by
              have kS : Keeps [gu, gw] w4 ((w4.setCell ⟨gu, kk, none⟩ (.bool true)).setCell ⟨gw, kk, none⟩ d.bv) := ((Keeps.refl _ _).setCell (Or.inl (by simp)) _).setCell (Or.inl (by simp)) _
              have ogu := o4 gu (.inr rfl)
              have ogw := o4 gw (.inl rfl)
              refine ⟨⟨(n4.at_.keep kS (by simp; exact ⟨fun e => ogu.2.1 e.symm, fun e => ogw.2.1 e.symm⟩) (by simp; exact ⟨fun e => ogu.2.2 e.symm, fun e => ogw.2.2 e.symm⟩) (fun b hb hm => by simp at hm; rcases hm with rfl | rfl; exact ogu.1 hb; exact ogw.1 hb)).mono (by omega), n4.new, n4.kept.trans' kS (fun i hi hm => by have := A.out.new; simp at hm; omega)⟩, by rw [p4, List.length_set]; exact A.out.five, by rw [putS_cnt]; exact A.out.cnt, p3, ?_, ?_, fun j hj hu => ?_, fun j hj => ?_, A.out.new, o4⟩
              · rw [heap_setCell_same _ _ _ _ _ _ ((Below.heap_setCell _ _ _ _ A.out.new.2.2).trans u4), row5_set]
              · rw [Below.heap_setCell _ _ _ _ (fun e => A.out.new.2.2 e.symm), heap_setCell_same _ _ _ _ _ _ v4, row5_set]
                congr 3
                refine row5_congr fun j hj => ?_
                rw [p4, getD_set hk5]
                by_cases e : j = kk
                · subst e; rw [upd_same, if_pos rfl]
                · rw [upd_ne _ _ e, if_neg e]
              · rw [p4, getD_set hk5] at hu
                by_cases e : j = kk
                · subst e; rw [upd_same, upd_same]; exact DD0.out.rb
                · rw [if_neg e] at hu
                  rw [upd_ne _ _ e, upd_ne _ _ e]
                  exact A.out.row j hj hu
              · by_cases e : j = kk
                · subst e; rw [upd_same]; exact ⟨_, _, _, hbv⟩
                · rw [upd_ne _ _ e]; exact A.out.sli j hj)
            rw [hbv] at NEW
            clear p1 p2 p3 p4 n4 u4 v4 o4 kp hp kk4 AD DDr offK offB cD c0 c1 hsl
            go_wp2_with fail
            go_roundw
            case rel => exact ⟨k + 1, _, _, _, _, _, by omega, by go_num, NEW.out⟩
            case measure => simp [intOf]; omega
          · have pe : (putE hs 1 s kk d.key d.b == 0) = false := by simpa using p1
            refine held_takeW (i := 20) (v := .bool false) rfl (by kernel_rfl) (by kernel_rfl) (by kernel_rfl) (fun _ _ _ h => h) rfl (fun W1 hW1 => by go_simp) (kk4) ?_
            simp only [Act.put, List.setIfInBounds_toArray, List.set_cons_zero, List.set_cons_succ]
            refine held_take (i := 21) (v := .bool false) rfl (by kernel_rfl) (by kernel_rfl) (by kernel_rfl) (fun _ _ _ h => h) rfl (fun W1 hW1 => by go_simp) (kk4) ?_
            simp only [Act.put, List.setIfInBounds_toArray, List.set_cons_zero, List.set_cons_succ]
            refine wpAnyH_done (by kernel_rfl) ?_ _
            rw [p2, p3] at n4
            have NEW : Hid (Ap w0 w4 q p g gw gu hs s F4 ((k + 1) * 80) want wv) := hid ⟨⟨n4.at_.mono (by omega), n4.new, n4.kept⟩, A.out.five, A.out.cnt, A.out.rd, u4, v4, A.out.row, A.out.sli, A.out.new, o4⟩
            clear p1 p2 p3 n4 u4 v4 o4 kp hp kk4 AD DDr offK offB cD c0 c1 pe
            go_wp2_with fail
            go_roundw
            case rel => exact ⟨k + 1, _, _, _, _, _, by omega, by go_num, NEW.out⟩
            case measure => simp [intOf]; omega
        · go_wp2_with fail
          refine wp_region_any (by kernel_rfl) (wpAny_of_held (S := KpS [] wr.heap.size wr.drew) _ _ _ _ ?_)
          change wpAnyH _ _ _ _ _ _ _ _ wr.drew
          have cD : ∀ W1, KpS [] wr.heap.size wr.drew W1 → W1.cell? ⟨dg, off + k * 5, none⟩ = some (.int .i64 d.act) := fun W1 h => h.cell (by rw [World.cell?_drew]; exact c0) (by omega) (by simp)
          refine held_take (i := 0) (v := .slice (some ⟨dg, off, none⟩) ds.length cap) rfl (by kernel_rfl) (by kernel_rfl) (by kernel_rfl) (fun _ _ _ h => h) rfl (fun W1 hW1 => rfl) (KpS.refl _ _ _) ?_
          simp only [Act.put, List.setIfInBounds_toArray, List.set_cons_zero, List.set_cons_succ]
          refine held_take (i := 1) (v := .int .i64 k) rfl (by kernel_rfl) (by kernel_rfl) (by kernel_rfl) (fun _ _ _ h => h) rfl (fun W1 hW1 => rfl) (KpS.refl _ _ _) ?_
          simp only [Act.put, List.setIfInBounds_toArray, List.set_cons_zero, List.set_cons_succ]
          refine held_take (i := 2) (v := .pointer (some ⟨dg, off + k * 5, none⟩)) rfl (by kernel_rfl) (by kernel_rfl) (by kernel_rfl) (fun _ _ _ h => h) rfl (fun W1 hW1 => by go_simp) (KpS.refl _ _ _) ?_
          simp only [Act.put, List.setIfInBounds_toArray, List.set_cons_zero, List.set_cons_succ]
          refine held_take (i := 3) (v := .pointer (some ⟨dg, off + k * 5, none⟩)) rfl (by kernel_rfl) (by kernel_rfl) (by kernel_rfl) (fun _ _ _ h => h) rfl (fun W1 hW1 => by go_simp) (KpS.refl _ _ _) ?_
          simp only [Act.put, List.setIfInBounds_toArray, List.set_cons_zero, List.set_cons_succ]
          refine held_take (i := 4) (v := .int .i64 d.act) rfl (by kernel_rfl) (by kernel_rfl) (by kernel_rfl) (fun _ _ _ h => h) rfl (fun W1 hW1 => exec_load _ _ _ _ rfl rfl (run_loadCell W1 _ _ _ (cD W1 hW1) (agg_no _ (by kernel_rfl)))) (KpS.refl _ _ _) ?_
          simp only [Act.put, List.setIfInBounds_toArray, List.set_cons_zero, List.set_cons_succ]
          refine held_take (i := 5) (v := .bool false) rfl (by kernel_rfl) (by kernel_rfl) (by kernel_rfl) (fun _ _ _ h => h) rfl (fun W1 hW1 => by go_simp) (KpS.refl _ _ _) ?_
          simp only [Act.put, List.setIfInBounds_toArray, List.set_cons_zero, List.set_cons_succ]
          refine held_take (i := 6) (v := .bool false) rfl (by kernel_rfl) (by kernel_rfl) (by kernel_rfl) (fun _ _ _ h => h) rfl (fun W1 hW1 => rfl) (KpS.refl _ _ _) ?_
          simp only [Act.put, List.setIfInBounds_toArray, List.set_cons_zero, List.set_cons_succ]
          refine held_skip (i := 7) rfl (by kernel_rfl) (by kernel_rfl) (by kernel_rfl) (fun _ _ _ h => h) rfl (KpS.refl _ _ _) ?_
          simp only [Act.put, List.setIfInBounds_toArray, List.set_cons_zero, List.set_cons_succ]
          refine held_skip (i := 8) rfl (by kernel_rfl) (by kernel_rfl) (by kernel_rfl) (fun _ _ _ h => h) rfl (KpS.refl _ _ _) ?_
          simp only [Act.put, List.setIfInBounds_toArray, List.set_cons_zero, List.set_cons_succ]
          refine held_skip (i := 9) rfl (by kernel_rfl) (by kernel_rfl) (by kernel_rfl) (fun _ _ _ h => h) rfl (KpS.refl _ _ _) ?_
          simp only [Act.put, List.setIfInBounds_toArray, List.set_cons_zero, List.set_cons_succ]
          refine held_skip (i := 10) rfl (by kernel_rfl) (by kernel_rfl) (by kernel_rfl) (fun _ _ _ h => h) rfl (KpS.refl _ _ _) ?_
          simp only [Act.put, List.setIfInBounds_toArray, List.set_cons_zero, List.set_cons_succ]
          refine held_skip (i := 11) rfl (by kernel_rfl) (by kernel_rfl) (by kernel_rfl) (fun _ _ _ h => h) rfl (KpS.refl _ _ _) ?_
          simp only [Act.put, List.setIfInBounds_toArray, List.set_cons_zero, List.set_cons_succ]
          refine held_skip (i := 12) rfl (by kernel_rfl) (by kernel_rfl) (by kernel_rfl) (fun _ _ _ h => h) rfl (KpS.refl _ _ _) ?_
          simp only [Act.put, List.setIfInBounds_toArray, List.set_cons_zero, List.set_cons_succ]
          refine held_skip (i := 13) rfl (by kernel_rfl) (by kernel_rfl) (by kernel_rfl) (fun _ _ _ h => h) rfl (KpS.refl _ _ _) ?_
          simp only [Act.put, List.setIfInBounds_toArray, List.set_cons_zero, List.set_cons_succ]
          refine held_skip (i := 14) rfl (by kernel_rfl) (by kernel_rfl) (by kernel_rfl) (fun _ _ _ h => h) rfl (KpS.refl _ _ _) ?_
          simp only [Act.put, List.setIfInBounds_toArray, List.set_cons_zero, List.set_cons_succ]
          refine held_skip (i := 15) rfl (by kernel_rfl) (by kernel_rfl) (by kernel_rfl) (fun _ _ _ h => h) rfl (KpS.refl _ _ _) ?_
          simp only [Act.put, List.setIfInBounds_toArray, List.set_cons_zero, List.set_cons_succ]
          refine held_skip (i := 16) rfl (by kernel_rfl) (by kernel_rfl) (by kernel_rfl) (fun _ _ _ h => h) rfl (KpS.refl _ _ _) ?_
          simp only [Act.put, List.setIfInBounds_toArray, List.set_cons_zero, List.set_cons_succ]
          refine held_skip (i := 17) rfl (by kernel_rfl) (by kernel_rfl) (by kernel_rfl) (fun _ _ _ h => h) rfl (KpS.refl _ _ _) ?_
          simp only [Act.put, List.setIfInBounds_toArray, List.set_cons_zero, List.set_cons_succ]
          refine held_skip (i := 18) rfl (by kernel_rfl) (by kernel_rfl) (by kernel_rfl) (fun _ _ _ h => h) rfl (KpS.refl _ _ _) ?_
          simp only [Act.put, List.setIfInBounds_toArray, List.set_cons_zero, List.set_cons_succ]
          refine held_skip (i := 19) rfl (by kernel_rfl) (by kernel_rfl) (by kernel_rfl) (fun _ _ _ h => h) rfl (KpS.refl _ _ _) ?_
          simp only [Act.put, List.setIfInBounds_toArray, List.set_cons_zero, List.set_cons_succ]
          refine held_skip (i := 20) rfl (by kernel_rfl) (by kernel_rfl) (by kernel_rfl) (fun _ _ _ h => h) rfl (KpS.refl _ _ _) ?_
          simp only [Act.put, List.setIfInBounds_toArray, List.set_cons_zero, List.set_cons_succ]
          refine held_take (i := 21) (v := .bool false) rfl (by kernel_rfl) (by kernel_rfl) (by kernel_rfl) (fun _ _ _ h => h) rfl (fun W1 hW1 => by go_simp) (KpS.refl _ _ _) ?_
          simp only [Act.put, List.setIfInBounds_toArray, List.set_cons_zero, List.set_cons_succ]
          refine wpAnyH_done (by kernel_rfl) ?_ _
          have c04 : wr.drew.cell? ⟨dg, off + k * 5, none⟩ = some (.int .i64 d.act) := by rw [World.cell?_drew]; exact c0
          have AD := hid (A.out.keep (Keeps.refl [] wr).drew)
          have hz4 : wr.drew.heap.size = wr.heap.size := rfl
          clear cD c0 c1
          generalize wr.drew = w4 at c04 AD hz4 ⊢
          by_cases h6 : d.act = 6
          · have t6 : (d.act == 6) = true := by simpa using h6
            have Z4 := hid hz4
            clear hz4
            go_wp2_with fail
            have hz4 := Z4.out
            refine wp_region_any (by kernel_rfl) (wpAny_of_held (S := KpS (g :: F) w4.heap.size w4.drew) _ _ _ _ ?_)
            change wpAnyH _ _ _ _ _ _ _ _ w4.drew
            have gF : gu ∉ g :: F := fun hm => by
              rcases List.mem_cons.1 hm with hm | hm
              · exact (AD.out.off gu (.inr rfl)).2.2 hm
              · exact (AD.out.off gu (.inr rfl)).1 hm
            have cU : ∀ W1, KpS (g :: F) w4.heap.size w4.drew W1 → W1.cell? ⟨gu, kk, none⟩ = some (.bool hs[kk].used) := fun W1 h => h.cell (by rw [World.cell?_drew, ← EK.out]; exact AD.out.cu kk hkk) (lt_of_block AD.out.u5) gF
            refine held_take (i := 0) (v := .pointer (some ⟨q, 0, none⟩)) rfl (by kernel_rfl) (by kernel_rfl) (by kernel_rfl) (fun _ _ _ h => h) rfl (fun W1 hW1 => rfl) (KpS.refl _ _ _) ?_
            simp only [Act.put, List.setIfInBounds_toArray, List.set_cons_zero, List.set_cons_succ]
            refine held_take (i := 1) (v := .int .i64 kk) rfl (by kernel_rfl) (by kernel_rfl) (by kernel_rfl) (fun _ _ _ h => h) rfl (fun W1 hW1 => rfl) (KpS.refl _ _ _) ?_
            simp only [Act.put, List.setIfInBounds_toArray, List.set_cons_zero, List.set_cons_succ]
            refine held_take (i := 4) (v := .slice (some ⟨gu, 0, none⟩) 5 5) rfl (by kernel_rfl) (by kernel_rfl) (by kernel_rfl) (fun _ _ _ h => h) rfl (fun W1 hW1 => rfl) (KpS.refl _ _ _) ?_
            simp only [Act.put, List.setIfInBounds_toArray, List.set_cons_zero, List.set_cons_succ]
            refine held_take (i := 5) (v := .int .i64 kk) rfl (by kernel_rfl) (by kernel_rfl) (by kernel_rfl) (fun _ _ _ h => h) rfl (fun W1 hW1 => rfl) (KpS.refl _ _ _) ?_
            simp only [Act.put, List.setIfInBounds_toArray, List.set_cons_zero, List.set_cons_succ]
            refine held_take (i := 6) (v := .pointer (some ⟨gu, kk, none⟩)) rfl (by kernel_rfl) (by kernel_rfl) (by kernel_rfl) (fun _ _ _ h => h) rfl (fun W1 hW1 => by go_simp) (KpS.refl _ _ _) ?_
            simp only [Act.put, List.setIfInBounds_toArray, List.set_cons_zero, List.set_cons_succ]
            refine held_take (i := 7) (v := .bool hs[kk].used) rfl (by kernel_rfl) (by kernel_rfl) (by kernel_rfl) (fun _ _ _ h => h) rfl (fun W1 hW1 => exec_load _ _ _ _ rfl rfl (run_loadCell W1 _ _ _ (cU W1 hW1) (agg_no _ (by kernel_rfl)))) (KpS.refl _ _ _) ?_
            simp only [Act.put, List.setIfInBounds_toArray, List.set_cons_zero, List.set_cons_succ]
            have ADr := AD.out.keep (Keeps.refl [] w4).drew
            refine held_do (i := 2) (by kernel_rfl) rfl rfl (wp_enter (f := 37) (args := #[.pointer (some ⟨q, 0, none⟩), .int .i64 kk]) (by go_simp) (lClear_any w4.drew q p g 1 hs s F (k * 80) ADr.sl.at_ (by omega) (kk : Int)) ?_)
            intro e w5 hp
            have hp2 := hp
            obtain ⟨_, F0, _, kp, _⟩ := hp2
            obtain ⟨rfl, F5, n5, u5, v5, o5⟩ := ADr.post hp
            have kk5 : KpS (g :: F) w4.heap.size w4.drew w5 := (KpS.refl _ _ _).keeps kp (Nat.le_refl _) (fun i hi _ => hi)
            refine ⟨_, rfl, kk5, ?_⟩
            simp only [Act.put, List.setIfInBounds_toArray, List.set_cons_zero, List.set_cons_succ]
            have fu5 : w5.frozen? ⟨gu, kk, none⟩ = false := by simp [World.frozen?, v5]
            have kS : Keeps [gu] w5 (w5.setCell ⟨gu, kk, none⟩ (.bool false)) := (Keeps.refl _ _).setCell (Or.inl (by simp)) _
            have ogu := o5 gu (.inr rfl)
            have nS : SlNew w0 (w5.setCell ⟨gu, kk, none⟩ (.bool false)) q p g 1 (clearH hs 1 s kk) (clearS hs 1 s kk) F5 ((k + 1) * 80) :=
              ⟨(n5.at_.keep kS (by simp; exact fun e => ogu.2.1 e.symm) (by simp; exact fun e => ogu.2.2 e.symm) (fun b hb hm => by simp at hm; subst hm; exact ogu.1 hb)).mono (by omega), n5.new, n5.kept.trans' kS (fun i hi hm => by have := A.out.new; simp at hm; omega)⟩
            have wS := (Below.heap_setCell w5 ⟨gu, kk, none⟩ (.bool false) gw (fun e => A.out.new.2.2 e)).trans u5
            have vS : (w5.setCell ⟨gu, kk, none⟩ (.bool false)).heap[gu]? = some (.cells (row5 (upd (fun k => .bool (hs.getD k hd0).used) kk (.bool false))).toArray 4 (0, 0)) := by
              rw [heap_setCell_same _ _ _ _ _ _ v5, row5_set]
            rcases clear_eff A.out.rd kk hk5 with ⟨p1, p2, p3, p4⟩ | ⟨p1, p2, p3, p4⟩
            · rw [p2]
              rw [p1] at cU ⊢
              refine held_take (i := 3) (v := .bool true) rfl (by kernel_rfl) (by kernel_rfl) (by kernel_rfl) (fun _ _ _ h => h) rfl (fun W1 hW1 => by go_simp) (kk5) ?_
              simp only [Act.put, List.setIfInBounds_toArray, List.set_cons_zero, List.set_cons_succ]
              refine held_take (i := 8) (v := .bool false) rfl (by kernel_rfl) (by kernel_rfl) (by kernel_rfl) (fun _ _ _ h => h) rfl (fun W1 hW1 => by go_simp) (kk5) ?_
              simp only [Act.put, List.setIfInBounds_toArray, List.set_cons_zero, List.set_cons_succ]
              refine wpAnyH_done (by kernel_rfl) ?_ _
              have cu5 : w5.cell? ⟨gu, kk, none⟩ = some (.bool true) := cU w5 kk5
              have NEW : Hid (Ap w0 (w5.setCell ⟨gu, kk, none⟩ (.bool false)) q p g gw gu (clearH hs 1 s kk) (clearS hs 1 s kk) F5 ((k + 1) * 80) want wv) := hid (by
                refine ⟨nS, by rw [p4, List.length_set]; exact A.out.five, by rw [clearS_cnt]; exact A.out.cnt, p3, wS, ?_, fun j hj hu => ?_, A.out.sli, A.out.new, o5⟩
                · rw [vS]
                  congr 3
                  refine row5_congr fun j hj => ?_
                  rw [p4, getD_set hk5]
                  by_cases e : j = kk
                  · subst e; rw [upd_same, if_pos rfl]; rfl
                  · rw [upd_ne _ _ e, if_neg e]
                · rw [p4, getD_set hk5] at hu
                  by_cases e : j = kk
                  · subst e; rw [if_pos rfl] at hu; cases hu
                  · rw [if_neg e] at hu
                    exact A.out.row j hj hu)
              clear p1 p2 p3 p4 n5 u5 v5 o5 kp hp kk5 ADr cU nS wS vS kS ogu hz4
              go_wp2_with fail
              go_roundw
              case rel => exact ⟨k + 1, _, _, _, _, _, by omega, by go_num, NEW.out⟩
              case measure => simp [intOf]; omega
            · rw [p2]
              rw [p1] at cU ⊢
              refine held_take (i := 3) (v := .bool false) rfl (by kernel_rfl) (by kernel_rfl) (by kernel_rfl) (fun _ _ _ h => h) rfl (fun W1 hW1 => by go_simp) (kk5) ?_
              simp only [Act.put, List.setIfInBounds_toArray, List.set_cons_zero, List.set_cons_succ]
              refine held_take (i := 8) (v := .bool false) rfl (by kernel_rfl) (by kernel_rfl) (by kernel_rfl) (fun _ _ _ h => h) rfl (fun W1 hW1 => by go_simp) (kk5) ?_
              simp only [Act.put, List.setIfInBounds_toArray, List.set_cons_zero, List.set_cons_succ]
              refine wpAnyH_done (by kernel_rfl) ?_ _
              have cu5 : w5.cell? ⟨gu, kk, none⟩ = some (.bool false) := cU w5 kk5
              rw [p3, p4] at nS
              have NEW : Hid (Ap w0 (w5.setCell ⟨gu, kk, none⟩ (.bool false)) q p g gw gu hs s F5 ((k + 1) * 80) want wv) := hid (by
                refine ⟨nS, A.out.five, A.out.cnt, A.out.rd, wS, ?_, A.out.row, A.out.sli, A.out.new, o5⟩
                rw [vS]
                congr 3
                refine row5_congr fun j hj => ?_
                by_cases e : j = kk
                · subst e; rw [upd_same, EK.out, p1]
                · rw [upd_ne _ _ e])
              clear p1 p2 p3 p4 n5 u5 v5 o5 kp hp kk5 ADr cU nS wS vS kS ogu hz4
              go_wp2_with fail
              go_roundw
              case rel => exact ⟨k + 1, _, _, _, _, _, by omega, by go_num, NEW.out⟩
              case measure => simp [intOf]; omega
          · have t6 : (d.act == 6) = false := by simpa using h6
            clear hz4
            have NEW : Hid (Ap w0 w4 q p g gw gu hs s F ((k + 1) * 80) want wv) := hid ⟨⟨AD.out.sl.at_.mono (by omega), AD.out.sl.new, AD.out.sl.kept⟩, AD.out.five, AD.out.cnt, AD.out.rd, AD.out.w5, AD.out.u5, AD.out.row, AD.out.sli, AD.out.new, AD.out.off⟩
            go_wp2_with fail
            go_roundw
            case rel => exact ⟨k + 1, _, _, _, _, _, by omega, by go_num, NEW.out⟩
            case measure => simp [intOf]; omega
      · have : k = ds.length := by omega
        subst this
        have hlt' : ¬ ((ds.length : Nat) : Int) < (ds.length : Int) := by omega
        have op := lOpen_good wr p s F _ A.out.sl.at_.dk 1 5 (by rw [A.out.cnt]; omega) (by rw [A.out.cnt]) A.out.rd.alive.1 (by have := A.out.rd.good; rw [A.out.five] at this; exact this)
        have hall : headsS s 1 5 = hs := by have := A.out.rd.all; rw [A.out.five] at this; exact this
        rw [hall] at op
        have OP := hid op
        clear op hall
        go_wp2_with fail
        refine OP.out.mono ?_
        rintro e w5 ⟨q2, g2, rfl, T5, _, _, k5⟩
        have T := hid T5
        have A5 := hid (A.out.keep k5)
        clear T5 k5 OP
        go_wp2_with fail
        go_loopw [13, 14] (fun f i wr => ∃ (m : Nat), m ≤ 5 ∧ f = .int .i64 (fd hs m) ∧ i = .int .i64 (4 - (m : Int)) ∧ Keeps [] w5 wr) (fun _ i _ => ((intOf i) + 1).toNat)
        case atStart => exact ⟨0, by omega, rfl, rfl, Keeps.refl _ _⟩
        case round =>
          obtain ⟨m, hm, rfl, rfl, q1⟩ := hrel
          rename_i wr2 _
          have Q1 := hid q1
          clear q1
          by_cases hm5 : m < 5
          · obtain ⟨kk, hkm, hkk⟩ : ∃ kk : Nat, kk = 4 - m ∧ kk < 5 := ⟨_, rfl, by omega⟩
            have hki : 4 - (m : Int) = (kk : Int) := by omega
            rw [hki]
            have HKM := hid hkm
            clear hkm hki
            have hk5 : kk < hs.length := by rw [A.out.five]; exact hkk
            have ek : hs.getD kk hd0 = hs[kk] := by rw [List.getD_eq_getElem?_getD, List.getElem?_eq_getElem hk5]; rfl
            have EK := hid ek
            clear ek
            have A6 := hid (A5.out.keep Q1.out)
            have T6 := hid (T.out.keep Q1.out (by simp) (by simp) (by simp))
            have hge : (kk : Int) ≥ 0 := by omega
            have hkt : (kk : Int) < 5 := by omega
            have hal := A.out.rd.alive.1
            obtain ⟨sa, sn, sc, hsl⟩ := A.out.sli kk hkk
            by_cases hu : hs[kk].used = true
            · have HU := hid hu
              clear hu
              have hgb : getB s (1 + kk * 8) hs[kk].held = want kk := A.out.rd.holds kk hk5 HU.out
              have hwl : (want kk).length ≤ 1000000 := by rw [← hgb]; unfold getB; rw [List.length_take, imageL_len]; omega
              have RW0 := A.out.row kk hkk (by rw [EK.out, HU.out])
              rw [hsl] at RW0
              go_wp2_with fail
              refine (callsIn_wide.1 (get_in 9 (by omega) wr q p g 1 hs s F _ A6.out.sl.at_ kk (1 + kk * 8) rfl hk5 HU.out hal)).mono ?_
              rintro e w7 ⟨vb, rfl, rb, nb, k7⟩
              rw [hgb] at rb
              have RB7 := hid rb
              have A7 := hid (A6.out.keep k7)
              have T7 := hid (T6.out.keep k7 (by simp) (by simp) (by simp))
              have K7 := hid (Q1.out.trans k7)
              clear rb nb k7
              go_wp2_with fail
              refine (callsIn_wide.1 (get_in 9 (by omega) w7 q2 p g2 1 hs s F _ T7.out kk (1 + kk * 8) rfl hk5 HU.out hal)).mono ?_
              rintro e w8 ⟨vc, rfl, rc, nc, k8⟩
              rw [hgb] at rc
              have RC := hid rc
              have RB := hid (RB7.out.keep k8 (by intro _ _ _ _ _; simp))
              have A8 := hid (A7.out.keep k8)
              have K8 := hid (K7.out.trans k8)
              have RW := hid (RW0.keep A8.out.sl.kept (by intro _ _ _ _ _; simp))
              clear rc nc k8 RB7 A7 T7 K7 RW0
              go_wp2_with fail
              refine wp_region_any (by kernel_rfl) (wpAny_of_held (S := KpS [] w8.heap.size w8.drew) _ _ _ _ ?_)
              change wpAnyH _ _ _ _ _ _ _ _ w8.drew
              have cU : ∀ W1, KpS [] w8.heap.size w8.drew W1 → W1.cell? ⟨gu, kk, none⟩ = some (.bool true) := fun W1 h => h.cell (by rw [World.cell?_drew]; have := A8.out.cu kk hkk; rw [EK.out, HU.out] at this; exact this) (lt_of_block A8.out.u5) (by simp)
              have cW : ∀ W1, KpS [] w8.heap.size w8.drew W1 → W1.cell? ⟨gw, kk, none⟩ = some (.slice sa sn sc) := fun W1 h => h.cell (by rw [World.cell?_drew]; have := A8.out.cw kk hkk; rw [hsl] at this; exact this) (lt_of_block A8.out.w5) (by simp)
              refine held_take (i := 0) (v := .int .i64 0) rfl (by kernel_rfl) (by kernel_rfl) (by kernel_rfl) (fun _ _ _ h => h) rfl (fun W1 hW1 => rfl) (KpS.refl _ _ _) ?_
              simp only [Act.put, List.setIfInBounds_toArray, List.set_cons_zero, List.set_cons_succ]
              refine held_take (i := 1) (v := .int .i64 0) rfl (by kernel_rfl) (by kernel_rfl) (by kernel_rfl) (fun _ _ _ h => h) rfl (fun W1 hW1 => rfl) (KpS.refl _ _ _) ?_
              simp only [Act.put, List.setIfInBounds_toArray, List.set_cons_zero, List.set_cons_succ]
              refine held_take (i := 2) (v := .bool false) rfl (by kernel_rfl) (by kernel_rfl) (by kernel_rfl) (fun _ _ _ h => h) rfl (fun W1 hW1 => by go_simp) (KpS.refl _ _ _) ?_
              simp only [Act.put, List.setIfInBounds_toArray, List.set_cons_zero, List.set_cons_succ]
              refine held_take (i := 3) (v := .bool false) rfl (by kernel_rfl) (by kernel_rfl) (by kernel_rfl) (fun _ _ _ h => h) rfl (fun W1 hW1 => rfl) (KpS.refl _ _ _) ?_
              simp only [Act.put, List.setIfInBounds_toArray, List.set_cons_zero, List.set_cons_succ]
              refine held_takeW (i := 4) (v := .int .i64 0) rfl (by kernel_rfl) (by kernel_rfl) (by kernel_rfl) (fun _ _ _ h => h) rfl (fun W1 hW1 => rfl) (KpS.refl _ _ _) ?_
              simp only [Act.put, List.setIfInBounds_toArray, List.set_cons_zero, List.set_cons_succ]
              refine held_takeW (i := 5) (v := .bool true) rfl (by kernel_rfl) (by kernel_rfl) (by kernel_rfl) (fun _ _ _ h => h) rfl (fun W1 hW1 => by go_simp) (KpS.refl _ _ _) ?_
              simp only [Act.put, List.setIfInBounds_toArray, List.set_cons_zero, List.set_cons_succ]
              refine held_takeW (i := 6) (v := .slice (some ⟨gu, 0, none⟩) 5 5) rfl (by kernel_rfl) (by kernel_rfl) (by kernel_rfl) (fun _ _ _ h => h) rfl (fun W1 hW1 => rfl) (KpS.refl _ _ _) ?_
              simp only [Act.put, List.setIfInBounds_toArray, List.set_cons_zero, List.set_cons_succ]
              refine held_takeW (i := 7) (v := .int .i64 kk) rfl (by kernel_rfl) (by kernel_rfl) (by kernel_rfl) (fun _ _ _ h => h) rfl (fun W1 hW1 => rfl) (KpS.refl _ _ _) ?_
              simp only [Act.put, List.setIfInBounds_toArray, List.set_cons_zero, List.set_cons_succ]
              refine held_takeW (i := 8) (v := .pointer (some ⟨gu, kk, none⟩)) rfl (by kernel_rfl) (by kernel_rfl) (by kernel_rfl) (fun _ _ _ h => h) rfl (fun W1 hW1 => by go_simp) (KpS.refl _ _ _) ?_
              simp only [Act.put, List.setIfInBounds_toArray, List.set_cons_zero, List.set_cons_succ]
              refine held_takeW (i := 9) (v := .bool true) rfl (by kernel_rfl) (by kernel_rfl) (by kernel_rfl) (fun _ _ _ h => h) rfl (fun W1 hW1 => exec_load _ _ _ _ rfl rfl (run_loadCell W1 _ _ _ (cU W1 hW1) (agg_no _ (by kernel_rfl)))) (KpS.refl _ _ _) ?_
              simp only [Act.put, List.setIfInBounds_toArray, List.set_cons_zero, List.set_cons_succ]
              refine held_takeW (i := 10) (v := .bool false) rfl (by kernel_rfl) (by kernel_rfl) (by kernel_rfl) (fun _ _ _ h => h) rfl (fun W1 hW1 => by go_simp) (KpS.refl _ _ _) ?_
              simp only [Act.put, List.setIfInBounds_toArray, List.set_cons_zero, List.set_cons_succ]
              refine held_take (i := 11) (v := .bool false) rfl (by kernel_rfl) (by kernel_rfl) (by kernel_rfl) (fun _ _ _ h => h) rfl (fun W1 hW1 => by go_simp) (KpS.refl _ _ _) ?_
              simp only [Act.put, List.setIfInBounds_toArray, List.set_cons_zero, List.set_cons_succ]
              refine held_take (i := 12) (v := .bool false) rfl (by kernel_rfl) (by kernel_rfl) (by kernel_rfl) (fun _ _ _ h => h) rfl (fun W1 hW1 => rfl) (KpS.refl _ _ _) ?_
              simp only [Act.put, List.setIfInBounds_toArray, List.set_cons_zero, List.set_cons_succ]
              refine held_takeW (i := 13) (v := .slice (some ⟨gu, 0, none⟩) 5 5) rfl (by kernel_rfl) (by kernel_rfl) (by kernel_rfl) (fun _ _ _ h => h) rfl (fun W1 hW1 => rfl) (KpS.refl _ _ _) ?_
              simp only [Act.put, List.setIfInBounds_toArray, List.set_cons_zero, List.set_cons_succ]
              refine held_takeW (i := 14) (v := .int .i64 kk) rfl (by kernel_rfl) (by kernel_rfl) (by kernel_rfl) (fun _ _ _ h => h) rfl (fun W1 hW1 => rfl) (KpS.refl _ _ _) ?_
              simp only [Act.put, List.setIfInBounds_toArray, List.set_cons_zero, List.set_cons_succ]
              refine held_takeW (i := 15) (v := .pointer (some ⟨gu, kk, none⟩)) rfl (by kernel_rfl) (by kernel_rfl) (by kernel_rfl) (fun _ _ _ h => h) rfl (fun W1 hW1 => by go_simp) (KpS.refl _ _ _) ?_
              simp only [Act.put, List.setIfInBounds_toArray, List.set_cons_zero, List.set_cons_succ]
              refine held_takeW (i := 16) (v := .bool true) rfl (by kernel_rfl) (by kernel_rfl) (by kernel_rfl) (fun _ _ _ h => h) rfl (fun W1 hW1 => exec_load _ _ _ _ rfl rfl (run_loadCell W1 _ _ _ (cU W1 hW1) (agg_no _ (by kernel_rfl)))) (KpS.refl _ _ _) ?_
              simp only [Act.put, List.setIfInBounds_toArray, List.set_cons_zero, List.set_cons_succ]
              refine held_takeW (i := 17) (v := .bool true) rfl (by kernel_rfl) (by kernel_rfl) (by kernel_rfl) (fun _ _ _ h => h) rfl (fun W1 hW1 => rfl) (KpS.refl _ _ _) ?_
              simp only [Act.put, List.setIfInBounds_toArray, List.set_cons_zero, List.set_cons_succ]
              refine held_takeW (i := 18) (v := vb) rfl (by kernel_rfl) (by kernel_rfl) (by kernel_rfl) (fun _ _ _ h => h) rfl (fun W1 hW1 => rfl) (KpS.refl _ _ _) ?_
              simp only [Act.put, List.setIfInBounds_toArray, List.set_cons_zero, List.set_cons_succ]
              refine held_takeW (i := 19) (v := .slice (some ⟨gw, 0, none⟩) 5 5) rfl (by kernel_rfl) (by kernel_rfl) (by kernel_rfl) (fun _ _ _ h => h) rfl (fun W1 hW1 => rfl) (KpS.refl _ _ _) ?_
              simp only [Act.put, List.setIfInBounds_toArray, List.set_cons_zero, List.set_cons_succ]
              refine held_takeW (i := 20) (v := .int .i64 kk) rfl (by kernel_rfl) (by kernel_rfl) (by kernel_rfl) (fun _ _ _ h => h) rfl (fun W1 hW1 => rfl) (KpS.refl _ _ _) ?_
              simp only [Act.put, List.setIfInBounds_toArray, List.set_cons_zero, List.set_cons_succ]
              refine held_takeW (i := 21) (v := .pointer (some ⟨gw, kk, none⟩)) rfl (by kernel_rfl) (by kernel_rfl) (by kernel_rfl) (fun _ _ _ h => h) rfl (fun W1 hW1 => by go_simp) (KpS.refl _ _ _) ?_
              simp only [Act.put, List.setIfInBounds_toArray, List.set_cons_zero, List.set_cons_succ]
              refine held_takeW (i := 22) (v := .slice sa sn sc) rfl (by kernel_rfl) (by kernel_rfl) (by kernel_rfl) (fun _ _ _ h => h) rfl (fun W1 hW1 => exec_load _ _ _ _ rfl rfl (run_loadCell W1 _ _ _ (cW W1 hW1) (agg_no _ (by kernel_rfl)))) (KpS.refl _ _ _) ?_
              simp only [Act.put, List.setIfInBounds_toArray, List.set_cons_zero, List.set_cons_succ]
              have kd : Keeps [] w8 w8.drew := (Keeps.refl [] w8).drew
              refine held_doW (i := 23) (by kernel_rfl) rfl rfl (wp_enter (f := 22) (args := #[vb, .slice sa sn sc]) (by go_simp) (same_true w8.drew vb _ (want kk) (RB.out.keep kd (by intro _ _ _ _ _; simp)) (RW.out.keep kd (by intro _ _ _ _ _; simp)) hwl) ?_)
              rintro e w9 ⟨rfl, k9⟩
              have s9 : KpS [] w8.heap.size w8.drew w9 := (KpS.refl _ _ _).keeps k9 (Nat.le_refl _) (by simp)
              refine ⟨_, rfl, s9, ?_⟩
              simp only [Act.put, List.setIfInBounds_toArray, List.set_cons_zero, List.set_cons_succ]
              refine held_takeW (i := 24) (v := .bool false) rfl (by kernel_rfl) (by kernel_rfl) (by kernel_rfl) (fun _ _ _ h => h) rfl (fun W1 hW1 => by go_simp) (s9) ?_
              simp only [Act.put, List.setIfInBounds_toArray, List.set_cons_zero, List.set_cons_succ]
              refine held_takeW (i := 25) (v := .bool false) rfl (by kernel_rfl) (by kernel_rfl) (by kernel_rfl) (fun _ _ _ h => h) rfl (fun W1 hW1 => rfl) (s9) ?_
              simp only [Act.put, List.setIfInBounds_toArray, List.set_cons_zero, List.set_cons_succ]
              refine held_takeW (i := 26) (v := vc) rfl (by kernel_rfl) (by kernel_rfl) (by kernel_rfl) (fun _ _ _ h => h) rfl (fun W1 hW1 => rfl) (s9) ?_
              simp only [Act.put, List.setIfInBounds_toArray, List.set_cons_zero, List.set_cons_succ]
              refine held_takeW (i := 27) (v := .slice (some ⟨gw, 0, none⟩) 5 5) rfl (by kernel_rfl) (by kernel_rfl) (by kernel_rfl) (fun _ _ _ h => h) rfl (fun W1 hW1 => rfl) (s9) ?_
              simp only [Act.put, List.setIfInBounds_toArray, List.set_cons_zero, List.set_cons_succ]
              refine held_takeW (i := 28) (v := .int .i64 kk) rfl (by kernel_rfl) (by kernel_rfl) (by kernel_rfl) (fun _ _ _ h => h) rfl (fun W1 hW1 => rfl) (s9) ?_
              simp only [Act.put, List.setIfInBounds_toArray, List.set_cons_zero, List.set_cons_succ]
              refine held_takeW (i := 29) (v := .pointer (some ⟨gw, kk, none⟩)) rfl (by kernel_rfl) (by kernel_rfl) (by kernel_rfl) (fun _ _ _ h => h) rfl (fun W1 hW1 => by go_simp) (s9) ?_
              simp only [Act.put, List.setIfInBounds_toArray, List.set_cons_zero, List.set_cons_succ]
              refine held_takeW (i := 30) (v := .slice sa sn sc) rfl (by kernel_rfl) (by kernel_rfl) (by kernel_rfl) (fun _ _ _ h => h) rfl (fun W1 hW1 => exec_load _ _ _ _ rfl rfl (run_loadCell W1 _ _ _ (cW W1 hW1) (agg_no _ (by kernel_rfl)))) (s9) ?_
              simp only [Act.put, List.setIfInBounds_toArray, List.set_cons_zero, List.set_cons_succ]
              have kd2 : Keeps [] w8 w9 := kd.trans k9
              refine held_doW (i := 31) (by kernel_rfl) rfl rfl (wp_enter (f := 22) (args := #[vc, .slice sa sn sc]) (by go_simp) (same_true w9 vc _ (want kk) (RC.out.keep kd2 (by intro _ _ _ _ _; simp)) (RW.out.keep kd2 (by intro _ _ _ _ _; simp)) hwl) ?_)
              rintro e wa ⟨rfl, ka⟩
              have sA : KpS [] w8.heap.size w8.drew wa := s9.keeps ka s9.size (by simp)
              refine ⟨_, rfl, sA, ?_⟩
              simp only [Act.put, List.setIfInBounds_toArray, List.set_cons_zero, List.set_cons_succ]
              refine held_takeW (i := 32) (v := .bool false) rfl (by kernel_rfl) (by kernel_rfl) (by kernel_rfl) (fun _ _ _ h => h) rfl (fun W1 hW1 => by go_simp) (sA) ?_
              simp only [Act.put, List.setIfInBounds_toArray, List.set_cons_zero, List.set_cons_succ]
              refine held_takeW (i := 33) (v := .bool false) rfl (by kernel_rfl) (by kernel_rfl) (by kernel_rfl) (fun _ _ _ h => h) rfl (fun W1 hW1 => by go_simp) (sA) ?_
              simp only [Act.put, List.setIfInBounds_toArray, List.set_cons_zero, List.set_cons_succ]
              refine held_takeW (i := 34) (v := .bool false) rfl (by kernel_rfl) (by kernel_rfl) (by kernel_rfl) (fun _ _ _ h => h) rfl (fun W1 hW1 => by go_simp) (sA) ?_
              simp only [Act.put, List.setIfInBounds_toArray, List.set_cons_zero, List.set_cons_succ]
              refine held_take (i := 35) (v := .bool false) rfl (by kernel_rfl) (by kernel_rfl) (by kernel_rfl) (fun _ _ _ h => h) rfl (fun W1 hW1 => by go_simp) (sA) ?_
              simp only [Act.put, List.setIfInBounds_toArray, List.set_cons_zero, List.set_cons_succ]
              refine held_take (i := 36) (v := .bool false) rfl (by kernel_rfl) (by kernel_rfl) (by kernel_rfl) (fun _ _ _ h => h) rfl (fun W1 hW1 => rfl) (sA) ?_
              simp only [Act.put, List.setIfInBounds_toArray, List.set_cons_zero, List.set_cons_succ]
              refine held_takeW (i := 37) (v := .pointer (some ⟨q, 0, none⟩)) rfl (by kernel_rfl) (by kernel_rfl) (by kernel_rfl) (fun _ _ _ h => h) rfl (fun W1 hW1 => rfl) (sA) ?_
              simp only [Act.put, List.setIfInBounds_toArray, List.set_cons_zero, List.set_cons_succ]
              refine held_takeW (i := 38) (v := .int .i64 kk) rfl (by kernel_rfl) (by kernel_rfl) (by kernel_rfl) (fun _ _ _ h => h) rfl (fun W1 hW1 => rfl) (sA) ?_
              simp only [Act.put, List.setIfInBounds_toArray, List.set_cons_zero, List.set_cons_succ]
              refine held_takeW (i := 40) (v := .slice (some ⟨gu, 0, none⟩) 5 5) rfl (by kernel_rfl) (by kernel_rfl) (by kernel_rfl) (fun _ _ _ h => h) rfl (fun W1 hW1 => rfl) (sA) ?_
              simp only [Act.put, List.setIfInBounds_toArray, List.set_cons_zero, List.set_cons_succ]
              refine held_takeW (i := 41) (v := .int .i64 kk) rfl (by kernel_rfl) (by kernel_rfl) (by kernel_rfl) (fun _ _ _ h => h) rfl (fun W1 hW1 => rfl) (sA) ?_
              simp only [Act.put, List.setIfInBounds_toArray, List.set_cons_zero, List.set_cons_succ]
              refine held_takeW (i := 42) (v := .pointer (some ⟨gu, kk, none⟩)) rfl (by kernel_rfl) (by kernel_rfl) (by kernel_rfl) (fun _ _ _ h => h) rfl (fun W1 hW1 => by go_simp) (sA) ?_
              simp only [Act.put, List.setIfInBounds_toArray, List.set_cons_zero, List.set_cons_succ]
              refine held_takeW (i := 43) (v := .bool true) rfl (by kernel_rfl) (by kernel_rfl) (by kernel_rfl) (fun _ _ _ h => h) rfl (fun W1 hW1 => exec_load _ _ _ _ rfl rfl (run_loadCell W1 _ _ _ (cU W1 hW1) (agg_no _ (by kernel_rfl)))) (sA) ?_
              simp only [Act.put, List.setIfInBounds_toArray, List.set_cons_zero, List.set_cons_succ]
              have kA8 : Keeps [] w8 wa := ⟨sA.os, sA.tape, sA.output, sA.size, fun j hj hm => sA.block j hj hm⟩
              have us := lUsed_any wa q p g 1 hs (A8.out.sl.at_.sl.keep kA8 (by simp) (by simp)) kk
              rw [usedS, headS_at hk5, HU.out] at us
              refine held_doW (i := 39) (by kernel_rfl) rfl rfl (wp_enter (f := 44) (args := #[.pointer (some ⟨q, 0, none⟩), .int .i64 kk]) (by go_simp) (us) ?_)
              rintro e wb ⟨rfl, rfl⟩
              refine ⟨_, rfl, sA, ?_⟩
              simp only [Act.put, List.setIfInBounds_toArray, List.set_cons_zero, List.set_cons_succ]
              refine held_takeW (i := 44) (v := .bool false) rfl (by kernel_rfl) (by kernel_rfl) (by kernel_rfl) (fun _ _ _ h => h) rfl (fun W1 hW1 => by go_simp) (sA) ?_
              simp only [Act.put, List.setIfInBounds_toArray, List.set_cons_zero, List.set_cons_succ]
              refine held_take (i := 45) (v := .bool false) rfl (by kernel_rfl) (by kernel_rfl) (by kernel_rfl) (fun _ _ _ h => h) rfl (fun W1 hW1 => by go_simp) (sA) ?_
              simp only [Act.put, List.setIfInBounds_toArray, List.set_cons_zero, List.set_cons_succ]
              refine wpAnyH_done (by kernel_rfl) ?_ _
              have A9 := hid (A8.out.keep kA8)
              have K9 := hid (K8.out.trans kA8)
              have cu9 := A9.out.cu kk hkk
              rw [EK.out, HU.out] at cu9
              generalize wa = w9f at A9 K9 cu9 ⊢
              clear cU cW sA kA8 us
              go_wp2_with fail
              go_roundw
              case rel =>
                refine ⟨m + 1, by omega, by rw [show fd hs (m + 1) = fd hs m by simp only [fd]; rw [if_pos (by rw [← HKM.out, EK.out, HU.out])]], by have := HKM.out; congr 1; omega, K9.out⟩
              case measure => simp [intOf] <;> omega
            · have HU : Hid (hs[kk].used = false) := hid (by simpa using hu)
              clear hu
              have ht : takeE hs kk = 6 := by
                unfold takeE
                rw [show hasS hs kk = true by simp [hasS, hk5], usedS, headS_at hk5, HU.out]; rfl
              go_wp2_with fail
              have gn := lGet_no wr q p g 1 hs A6.out.sl.at_.sl kk (by rw [ht]; decide)
              rw [ht] at gn
              refine gn.mono ?_
              rintro e w7 ⟨rfl, k7⟩
              have A7 := hid (A6.out.keep k7)
              have T7 := hid (T6.out.keep k7 (by simp) (by simp) (by simp))
              have K7 := hid (Q1.out.trans k7)
              clear k7 gn
              go_wp2_with fail
              have gn := lGet_no w7 q2 p g2 1 hs T7.out.sl kk (by rw [ht]; decide)
              rw [ht] at gn
              refine gn.mono ?_
              rintro e w8 ⟨rfl, k8⟩
              have A8 := hid (A7.out.keep k8)
              have K8 := hid (K7.out.trans k8)
              clear k8 gn A7 T7 K7 ht
              go_wp2_with fail
              refine wp_region_any (by kernel_rfl) (wpAny_of_held (S := KpS [] w8.heap.size w8.drew) _ _ _ _ ?_)
              change wpAnyH _ _ _ _ _ _ _ _ w8.drew
              have cU : ∀ W1, KpS [] w8.heap.size w8.drew W1 → W1.cell? ⟨gu, kk, none⟩ = some (.bool false) := fun W1 h => h.cell (by rw [World.cell?_drew]; have := A8.out.cu kk hkk; rw [EK.out, HU.out] at this; exact this) (lt_of_block A8.out.u5) (by simp)
              have cW : ∀ W1, KpS [] w8.heap.size w8.drew W1 → W1.cell? ⟨gw, kk, none⟩ = some (.slice sa sn sc) := fun W1 h => h.cell (by rw [World.cell?_drew]; have := A8.out.cw kk hkk; rw [hsl] at this; exact this) (lt_of_block A8.out.w5) (by simp)
              refine held_take (i := 0) (v := .int .i64 6) rfl (by kernel_rfl) (by kernel_rfl) (by kernel_rfl) (fun _ _ _ h => h) rfl (fun W1 hW1 => rfl) (KpS.refl _ _ _) ?_
              simp only [Act.put, List.setIfInBounds_toArray, List.set_cons_zero, List.set_cons_succ]
              refine held_take (i := 1) (v := .int .i64 6) rfl (by kernel_rfl) (by kernel_rfl) (by kernel_rfl) (fun _ _ _ h => h) rfl (fun W1 hW1 => rfl) (KpS.refl _ _ _) ?_
              simp only [Act.put, List.setIfInBounds_toArray, List.set_cons_zero, List.set_cons_succ]
              refine held_take (i := 2) (v := .bool false) rfl (by kernel_rfl) (by kernel_rfl) (by kernel_rfl) (fun _ _ _ h => h) rfl (fun W1 hW1 => by go_simp) (KpS.refl _ _ _) ?_
              simp only [Act.put, List.setIfInBounds_toArray, List.set_cons_zero, List.set_cons_succ]
              refine held_take (i := 3) (v := .bool false) rfl (by kernel_rfl) (by kernel_rfl) (by kernel_rfl) (fun _ _ _ h => h) rfl (fun W1 hW1 => rfl) (KpS.refl _ _ _) ?_
              simp only [Act.put, List.setIfInBounds_toArray, List.set_cons_zero, List.set_cons_succ]
              refine held_takeW (i := 4) (v := .int .i64 6) rfl (by kernel_rfl) (by kernel_rfl) (by kernel_rfl) (fun _ _ _ h => h) rfl (fun W1 hW1 => rfl) (KpS.refl _ _ _) ?_
              simp only [Act.put, List.setIfInBounds_toArray, List.set_cons_zero, List.set_cons_succ]
              refine held_takeW (i := 5) (v := .bool false) rfl (by kernel_rfl) (by kernel_rfl) (by kernel_rfl) (fun _ _ _ h => h) rfl (fun W1 hW1 => by go_simp) (KpS.refl _ _ _) ?_
              simp only [Act.put, List.setIfInBounds_toArray, List.set_cons_zero, List.set_cons_succ]
              refine held_takeW (i := 6) (v := .slice (some ⟨gu, 0, none⟩) 5 5) rfl (by kernel_rfl) (by kernel_rfl) (by kernel_rfl) (fun _ _ _ h => h) rfl (fun W1 hW1 => rfl) (KpS.refl _ _ _) ?_
              simp only [Act.put, List.setIfInBounds_toArray, List.set_cons_zero, List.set_cons_succ]
              refine held_takeW (i := 7) (v := .int .i64 kk) rfl (by kernel_rfl) (by kernel_rfl) (by kernel_rfl) (fun _ _ _ h => h) rfl (fun W1 hW1 => rfl) (KpS.refl _ _ _) ?_
              simp only [Act.put, List.setIfInBounds_toArray, List.set_cons_zero, List.set_cons_succ]
              refine held_takeW (i := 8) (v := .pointer (some ⟨gu, kk, none⟩)) rfl (by kernel_rfl) (by kernel_rfl) (by kernel_rfl) (fun _ _ _ h => h) rfl (fun W1 hW1 => by go_simp) (KpS.refl _ _ _) ?_
              simp only [Act.put, List.setIfInBounds_toArray, List.set_cons_zero, List.set_cons_succ]
              refine held_takeW (i := 9) (v := .bool false) rfl (by kernel_rfl) (by kernel_rfl) (by kernel_rfl) (fun _ _ _ h => h) rfl (fun W1 hW1 => exec_load _ _ _ _ rfl rfl (run_loadCell W1 _ _ _ (cU W1 hW1) (agg_no _ (by kernel_rfl)))) (KpS.refl _ _ _) ?_
              simp only [Act.put, List.setIfInBounds_toArray, List.set_cons_zero, List.set_cons_succ]
              refine held_takeW (i := 10) (v := .bool false) rfl (by kernel_rfl) (by kernel_rfl) (by kernel_rfl) (fun _ _ _ h => h) rfl (fun W1 hW1 => by go_simp) (KpS.refl _ _ _) ?_
              simp only [Act.put, List.setIfInBounds_toArray, List.set_cons_zero, List.set_cons_succ]
              refine held_take (i := 11) (v := .bool false) rfl (by kernel_rfl) (by kernel_rfl) (by kernel_rfl) (fun _ _ _ h => h) rfl (fun W1 hW1 => by go_simp) (KpS.refl _ _ _) ?_
              simp only [Act.put, List.setIfInBounds_toArray, List.set_cons_zero, List.set_cons_succ]
              refine held_take (i := 12) (v := .bool false) rfl (by kernel_rfl) (by kernel_rfl) (by kernel_rfl) (fun _ _ _ h => h) rfl (fun W1 hW1 => rfl) (KpS.refl _ _ _) ?_
              simp only [Act.put, List.setIfInBounds_toArray, List.set_cons_zero, List.set_cons_succ]
              refine held_takeW (i := 13) (v := .slice (some ⟨gu, 0, none⟩) 5 5) rfl (by kernel_rfl) (by kernel_rfl) (by kernel_rfl) (fun _ _ _ h => h) rfl (fun W1 hW1 => rfl) (KpS.refl _ _ _) ?_
              simp only [Act.put, List.setIfInBounds_toArray, List.set_cons_zero, List.set_cons_succ]
              refine held_takeW (i := 14) (v := .int .i64 kk) rfl (by kernel_rfl) (by kernel_rfl) (by kernel_rfl) (fun _ _ _ h => h) rfl (fun W1 hW1 => rfl) (KpS.refl _ _ _) ?_
              simp only [Act.put, List.setIfInBounds_toArray, List.set_cons_zero, List.set_cons_succ]
              refine held_takeW (i := 15) (v := .pointer (some ⟨gu, kk, none⟩)) rfl (by kernel_rfl) (by kernel_rfl) (by kernel_rfl) (fun _ _ _ h => h) rfl (fun W1 hW1 => by go_simp) (KpS.refl _ _ _) ?_
              simp only [Act.put, List.setIfInBounds_toArray, List.set_cons_zero, List.set_cons_succ]
              refine held_takeW (i := 16) (v := .bool false) rfl (by kernel_rfl) (by kernel_rfl) (by kernel_rfl) (fun _ _ _ h => h) rfl (fun W1 hW1 => exec_load _ _ _ _ rfl rfl (run_loadCell W1 _ _ _ (cU W1 hW1) (agg_no _ (by kernel_rfl)))) (KpS.refl _ _ _) ?_
              simp only [Act.put, List.setIfInBounds_toArray, List.set_cons_zero, List.set_cons_succ]
              refine held_takeW (i := 17) (v := .bool false) rfl (by kernel_rfl) (by kernel_rfl) (by kernel_rfl) (fun _ _ _ h => h) rfl (fun W1 hW1 => rfl) (KpS.refl _ _ _) ?_
              simp only [Act.put, List.setIfInBounds_toArray, List.set_cons_zero, List.set_cons_succ]
              have sA : KpS [] w8.heap.size w8.drew w8.drew := KpS.refl _ _ _
              refine held_skip (i := 18) rfl (by kernel_rfl) (by kernel_rfl) (by kernel_rfl) (fun _ _ _ h => h) rfl (KpS.refl _ _ _) ?_
              simp only [Act.put, List.setIfInBounds_toArray, List.set_cons_zero, List.set_cons_succ]
              refine held_skip (i := 19) rfl (by kernel_rfl) (by kernel_rfl) (by kernel_rfl) (fun _ _ _ h => h) rfl (KpS.refl _ _ _) ?_
              simp only [Act.put, List.setIfInBounds_toArray, List.set_cons_zero, List.set_cons_succ]
              refine held_skip (i := 20) rfl (by kernel_rfl) (by kernel_rfl) (by kernel_rfl) (fun _ _ _ h => h) rfl (KpS.refl _ _ _) ?_
              simp only [Act.put, List.setIfInBounds_toArray, List.set_cons_zero, List.set_cons_succ]
              refine held_skip (i := 21) rfl (by kernel_rfl) (by kernel_rfl) (by kernel_rfl) (fun _ _ _ h => h) rfl (KpS.refl _ _ _) ?_
              simp only [Act.put, List.setIfInBounds_toArray, List.set_cons_zero, List.set_cons_succ]
              refine held_skip (i := 22) rfl (by kernel_rfl) (by kernel_rfl) (by kernel_rfl) (fun _ _ _ h => h) rfl (KpS.refl _ _ _) ?_
              simp only [Act.put, List.setIfInBounds_toArray, List.set_cons_zero, List.set_cons_succ]
              refine held_skip (i := 23) rfl (by kernel_rfl) (by kernel_rfl) (by kernel_rfl) (fun _ _ _ h => h) rfl (KpS.refl _ _ _) ?_
              simp only [Act.put, List.setIfInBounds_toArray, List.set_cons_zero, List.set_cons_succ]
              refine held_skip (i := 24) rfl (by kernel_rfl) (by kernel_rfl) (by kernel_rfl) (fun _ _ _ h => h) rfl (KpS.refl _ _ _) ?_
              simp only [Act.put, List.setIfInBounds_toArray, List.set_cons_zero, List.set_cons_succ]
              refine held_skip (i := 25) rfl (by kernel_rfl) (by kernel_rfl) (by kernel_rfl) (fun _ _ _ h => h) rfl (KpS.refl _ _ _) ?_
              simp only [Act.put, List.setIfInBounds_toArray, List.set_cons_zero, List.set_cons_succ]
              refine held_skip (i := 26) rfl (by kernel_rfl) (by kernel_rfl) (by kernel_rfl) (fun _ _ _ h => h) rfl (KpS.refl _ _ _) ?_
              simp only [Act.put, List.setIfInBounds_toArray, List.set_cons_zero, List.set_cons_succ]
              refine held_skip (i := 27) rfl (by kernel_rfl) (by kernel_rfl) (by kernel_rfl) (fun _ _ _ h => h) rfl (KpS.refl _ _ _) ?_
              simp only [Act.put, List.setIfInBounds_toArray, List.set_cons_zero, List.set_cons_succ]
              refine held_skip (i := 28) rfl (by kernel_rfl) (by kernel_rfl) (by kernel_rfl) (fun _ _ _ h => h) rfl (KpS.refl _ _ _) ?_
              simp only [Act.put, List.setIfInBounds_toArray, List.set_cons_zero, List.set_cons_succ]
              refine held_skip (i := 29) rfl (by kernel_rfl) (by kernel_rfl) (by kernel_rfl) (fun _ _ _ h => h) rfl (KpS.refl _ _ _) ?_
              simp only [Act.put, List.setIfInBounds_toArray, List.set_cons_zero, List.set_cons_succ]
              refine held_skip (i := 30) rfl (by kernel_rfl) (by kernel_rfl) (by kernel_rfl) (fun _ _ _ h => h) rfl (KpS.refl _ _ _) ?_
              simp only [Act.put, List.setIfInBounds_toArray, List.set_cons_zero, List.set_cons_succ]
              refine held_skip (i := 31) rfl (by kernel_rfl) (by kernel_rfl) (by kernel_rfl) (fun _ _ _ h => h) rfl (KpS.refl _ _ _) ?_
              simp only [Act.put, List.setIfInBounds_toArray, List.set_cons_zero, List.set_cons_succ]
              refine held_skip (i := 32) rfl (by kernel_rfl) (by kernel_rfl) (by kernel_rfl) (fun _ _ _ h => h) rfl (KpS.refl _ _ _) ?_
              simp only [Act.put, List.setIfInBounds_toArray, List.set_cons_zero, List.set_cons_succ]
              refine held_skip (i := 33) rfl (by kernel_rfl) (by kernel_rfl) (by kernel_rfl) (fun _ _ _ h => h) rfl (KpS.refl _ _ _) ?_
              simp only [Act.put, List.setIfInBounds_toArray, List.set_cons_zero, List.set_cons_succ]
              refine held_takeW (i := 34) (v := .bool false) rfl (by kernel_rfl) (by kernel_rfl) (by kernel_rfl) (fun _ _ _ h => h) rfl (fun W1 hW1 => by go_simp) (KpS.refl _ _ _) ?_
              simp only [Act.put, List.setIfInBounds_toArray, List.set_cons_zero, List.set_cons_succ]
              refine held_take (i := 35) (v := .bool false) rfl (by kernel_rfl) (by kernel_rfl) (by kernel_rfl) (fun _ _ _ h => h) rfl (fun W1 hW1 => by go_simp) (sA) ?_
              simp only [Act.put, List.setIfInBounds_toArray, List.set_cons_zero, List.set_cons_succ]
              refine held_take (i := 36) (v := .bool false) rfl (by kernel_rfl) (by kernel_rfl) (by kernel_rfl) (fun _ _ _ h => h) rfl (fun W1 hW1 => rfl) (sA) ?_
              simp only [Act.put, List.setIfInBounds_toArray, List.set_cons_zero, List.set_cons_succ]
              refine held_takeW (i := 37) (v := .pointer (some ⟨q, 0, none⟩)) rfl (by kernel_rfl) (by kernel_rfl) (by kernel_rfl) (fun _ _ _ h => h) rfl (fun W1 hW1 => rfl) (sA) ?_
              simp only [Act.put, List.setIfInBounds_toArray, List.set_cons_zero, List.set_cons_succ]
              refine held_takeW (i := 38) (v := .int .i64 kk) rfl (by kernel_rfl) (by kernel_rfl) (by kernel_rfl) (fun _ _ _ h => h) rfl (fun W1 hW1 => rfl) (sA) ?_
              simp only [Act.put, List.setIfInBounds_toArray, List.set_cons_zero, List.set_cons_succ]
              refine held_takeW (i := 40) (v := .slice (some ⟨gu, 0, none⟩) 5 5) rfl (by kernel_rfl) (by kernel_rfl) (by kernel_rfl) (fun _ _ _ h => h) rfl (fun W1 hW1 => rfl) (sA) ?_
              simp only [Act.put, List.setIfInBounds_toArray, List.set_cons_zero, List.set_cons_succ]
              refine held_takeW (i := 41) (v := .int .i64 kk) rfl (by kernel_rfl) (by kernel_rfl) (by kernel_rfl) (fun _ _ _ h => h) rfl (fun W1 hW1 => rfl) (sA) ?_
              simp only [Act.put, List.setIfInBounds_toArray, List.set_cons_zero, List.set_cons_succ]
              refine held_takeW (i := 42) (v := .pointer (some ⟨gu, kk, none⟩)) rfl (by kernel_rfl) (by kernel_rfl) (by kernel_rfl) (fun _ _ _ h => h) rfl (fun W1 hW1 => by go_simp) (sA) ?_
              simp only [Act.put, List.setIfInBounds_toArray, List.set_cons_zero, List.set_cons_succ]
              refine held_takeW (i := 43) (v := .bool false) rfl (by kernel_rfl) (by kernel_rfl) (by kernel_rfl) (fun _ _ _ h => h) rfl (fun W1 hW1 => exec_load _ _ _ _ rfl rfl (run_loadCell W1 _ _ _ (cU W1 hW1) (agg_no _ (by kernel_rfl)))) (sA) ?_
              simp only [Act.put, List.setIfInBounds_toArray, List.set_cons_zero, List.set_cons_succ]
              have kA8 : Keeps [] w8 w8.drew := ⟨sA.os, sA.tape, sA.output, sA.size, fun j hj hm => sA.block j hj hm⟩
              have us := lUsed_any w8.drew q p g 1 hs (A8.out.sl.at_.sl.keep kA8 (by simp) (by simp)) kk
              rw [usedS, headS_at hk5, HU.out] at us
              refine held_doW (i := 39) (by kernel_rfl) rfl rfl (wp_enter (f := 44) (args := #[.pointer (some ⟨q, 0, none⟩), .int .i64 kk]) (by go_simp) (us) ?_)
              rintro e wb ⟨rfl, rfl⟩
              refine ⟨_, rfl, sA, ?_⟩
              simp only [Act.put, List.setIfInBounds_toArray, List.set_cons_zero, List.set_cons_succ]
              refine held_takeW (i := 44) (v := .bool false) rfl (by kernel_rfl) (by kernel_rfl) (by kernel_rfl) (fun _ _ _ h => h) rfl (fun W1 hW1 => by go_simp) (sA) ?_
              simp only [Act.put, List.setIfInBounds_toArray, List.set_cons_zero, List.set_cons_succ]
              refine held_take (i := 45) (v := .bool false) rfl (by kernel_rfl) (by kernel_rfl) (by kernel_rfl) (fun _ _ _ h => h) rfl (fun W1 hW1 => by go_simp) (sA) ?_
              simp only [Act.put, List.setIfInBounds_toArray, List.set_cons_zero, List.set_cons_succ]
              refine wpAnyH_done (by kernel_rfl) ?_ _
              have A9 := hid (A8.out.keep kA8)
              have K9 := hid (K8.out.trans kA8)
              have cu9 := A9.out.cu kk hkk
              rw [EK.out, HU.out] at cu9
              generalize w8.drew = w9f at A9 K9 cu9 ⊢
              clear cU cW sA kA8 us
              go_wp2_with fail
              go_roundw
              case rel =>
                refine ⟨m + 1, by omega, by rw [show fd hs (m + 1) = (kk : Int) by simp only [fd]; rw [if_neg (by rw [← HKM.out, EK.out, HU.out]; simp), HKM.out]], by have := HKM.out; congr 1; omega, K9.out⟩
              case measure => simp [intOf] <;> omega
          · have : m = 5 := by omega
            subst this
            have hnge : ¬ (4 - ((5 : Nat) : Int)) ≥ 0 := by omega
            have A6 := hid (A5.out.keep Q1.out)
            have T6 := hid (T.out.keep Q1.out (by simp) (by simp) (by simp))
            go_wp2_with fail
            have ff := fd_free hs A6.out.five
            have fr := lFree_any wr q p g 1 hs A6.out.sl.at_.sl
            rw [← ff] at fr
            refine fr.mono ?_
            rintro e w7 ⟨rfl, k7⟩
            have T7 := hid (T6.out.keep k7 (by simp) (by simp) (by simp))
            have K7 := hid ((K0.out.trans A6.out.sl.kept).trans k7)
            clear k7 fr
            go_wp2_with fail
            have fr := lFree_any w7 q2 p g2 1 hs T7.out.sl
            rw [← ff] at fr
            refine fr.mono ?_
            rintro e w8 ⟨rfl, k8⟩
            have K8 := hid (K7.out.trans k8)
            clear k8 fr
            go_wp2_with fail
            go_ret
            exact ⟨rfl, K8.out⟩
end Go.Proofs.Ytpnckjfmiobobaa

namespace Go.Proofs.Ytpnckjfmiobobaa
open Go.ChangeShapes Go.WideShapes Go.ChangeAt Go.RowKit

set_option maxRecDepth 100000 in
theorem apart_lifted (os : Os) (started : os.Started) (H : Type) (enc : TypeId × Value → H) :
    ReturnsInHanded {} Try.checked os 12 .any (Rows.slotApartSpec.pre6 enc Try.prog Try.f12 Rows.slotApartRow.domain false) (Rows.slotApartSpec.post enc Try.prog Try.f12 false true false false) := by
  refine returnsInHanded_of_change_sized (C := Try.checked) own started (by kernel_rfl) Try.func12
    (ChangeSpec.witness6 (enc := enc) (C := Try.checked) false ⟨#[], #[.slice none 0 0], []⟩ 8 (by kernel_rfl) (by kernel_rfl) (by kernel_rfl) (by kernel_rfl)) ?_
  intro W base args ds gs before hval0 hW hcnd hsz0 _
  have hval : ∀ (j : Nat) t v, Try.f12.params[j]? = some t → args[j]? = some v → Value.okWide Try.prog W .any base t v := hval0
  have hsz : (DataW.weightsEach Try.prog (Try.f12.params.toList ++ Rows.slotApartSpec.plain.varTypes Try.prog) (ds ++ gs)).all (· ≤ reachBytes) = true := hsz0
  have hW' := hW
  obtain ⟨p, q, hA0, hV, rfl, hfz, hnd⟩ := hW
  have hA : DataW.TrodAll enc Try.prog W 0 (fun _ => true) true Try.f12.params.toList args.toList ds p := hA0
  rw [Try.params12] at hA hval hsz
  obtain ⟨v0, vs0, d0, ds0, p0, q0, hargs, rfl, rfl, h0, r0⟩ := trodAll_cons hA
  obtain ⟨rfl, rfl, rfl⟩ := trodAll_nil r0
  obtain rfl : args = #[v0] := by cases args; simp_all
  obtain ⟨rfl, rfl⟩ := trodVars_none hV
  have k0 := h0
  have lt0 : ∀ x ∈ p0, x.block < W.heap.size := by obtain ⟨m, hm⟩ := k0; exact DataW.trod_lt m _ _ _ hm
  obtain ⟨a0, l0, c0, rfl⟩ := okWide_slice Try.underlying70 (hval 0 70 v0 rfl rfl)
  obtain ⟨x0, y0⟩ : ∃ zs, D5sAt W (.slice a0 l0 c0) zs := by
    obtain ⟨m, hm⟩ := h0
    obtain ⟨v, zs, e, hr⟩ := deeds5_of_trod hm (each_le hsz (j := 0) rfl rfl)
    simp [Value.cells] at e
    subst e
    exact ⟨zs, hr⟩
  clear hA0 hval0
  refine (apart_any W _ x0 y0).mono fun e W' ⟨he, hk⟩ => ?_
  subst he
  have bel : Below W.heap.size W W' := hk.below (Nat.le_refl _) (by simp)
  exact ⟨_, rfl, _, _, _, [], _, [], hW', trodAll_mk1 (shut_bool Try.underlying4 _), (trodAll_cons_mk (Below.trod laidOut (by kernel_rfl) (of_decide_eq_true (by kernel_rfl)) k0 bel lt0) trodAll_mk0), rfl, bel.frame _, fun h => by cases h⟩

theorem apart_holds : Rows.SlotApartSaid :=
  OpenClaim.holds_of_wide 12 Try.f12 rfl rfl rfl rfl rfl rfl rfl ⟨rfl, rfl, rfl, rfl, rfl⟩ rfl rfl rfl rfl rfl (by kernel_rfl) Try.func12 (by kernel_rfl)
    (of_decide_eq_true (by kernel_rfl)) (by unfold Func.isWrapper; rw [if_neg (of_decide_eq_false (by kernel_rfl))]; exact ⟨rfl, rfl⟩)
    (fun os started H enc _ => apart_lifted os started H enc)

end Go.Proofs.Ytpnckjfmiobobaa
