/- A disk of slots may die at any op, and any sectors be left: each row whose Put was OK is there, each that was cleared is not, the one that was at work is either (the law SlotDies): for every input the law returns true. No condition. First the walk, then the law. -/
import Derived.Test.YtnjlhplcagkcnaaSlR
import Derived.Deep.OwnRows
namespace Go.Proofs.Ytnjlhplcagkcnaa
open Go.RowKit Go.Shelf

theorem infoRow : (Try.prog.info? 23).map (fun i => (i.zero, i.size, i.bytes)) = some (some (.slice none 0 0), 1, 24) := by kernel_rfl
theorem infoBool : (Try.prog.info? 4).map (fun i => (i.zero, i.size, i.bytes)) = some (some (.bool false), 1, 1) := by kernel_rfl
theorem made5w : madeCells #[Value.slice none 0 0] 5 = (row5 fun _ => Value.slice none 0 0).toArray := by
  apply Array.ext'
  rw [toList_madeCells_one]
  rfl
theorem made5f : madeCells #[Value.bool false] 5 = (row5 fun _ => Value.bool false).toArray := by
  apply Array.ext'
  rw [toList_madeCells_one]
  rfl
theorem quiet_q {P : Program} {f : FuncId} {args : Array Value} {w : World} {n : Nat} {v : Value}
    (h : Calls P f args (w.drewN n) fun e w' => e = .returned v ∧ w.drewN n = w') : Calls P f args (w.drewN n) fun e w'' => e = .returned v ∧ ∃ m, w'' = w.drewN m :=
  h.mono fun _ _ ⟨he, hm⟩ => ⟨he, n, hm.symm⟩

/-- How the law stands between two deeds. -/
def DyRel (w0 wr : World) (q p g gw gu : Nat) (n k : Nat) (x : Int) (pv : Value) : Prop :=
  ∃ hs s F us wv want pl, k ≤ n ∧ Dz w0 wr q p g gw gu hs s F (k * 80) us wv ∧ (∀ j, j < 5 → us j = true → RowAt w0 (wv j) (want j)) ∧ (∃ a n c, pv = .slice a n c) ∧
    ((s.dead = false ∧ x = -1 ∧ Ready s 1 hs want ∧ ∀ j (h : j < hs.length), hs[j].used = us j) ∨ (s.dead = true ∧ RowAt w0 pv pl ∧ Fin5 s us want x pl))

set_option maxRecDepth 100000 in
set_option maxHeartbeats 12800000 in
theorem dies_any (w : World) (v : Value) (ds : List D5) (h : D5sAt w v ds) (fu : Int) (hfu : 0 ≤ fu ∧ fu ≤ 255) (cv : Value) (ch : List Int) (hcv : RowAt w cv ch) :
    Calls Try.prog 3 #[v, .int .u8 fu, cv] w fun e w' => e = .returned (.bool true) ∧ Keeps [] w w' := by
  have H := hid h
  have CV := hid hcv
  obtain ⟨a, cap, rfl, hh⟩ := id h
  obtain ⟨ca, cc, rfl, -⟩ := id hcv
  obtain ⟨N, hN, eN⟩ := and127 hfu
  have mkW : ∀ w, (Instr.makeSlice 34 (.int .i64 5) (.int .i64 5)).run Try.prog w = .ok (.slice (some ⟨w.heap.size, 0, none⟩) 5 5) (w.alloc (.cells (madeCells #[.slice none 0 0] 5) 23)) := fun w =>
    run_make_row' (P := Try.prog) 34 23 (.slice none 0 0) 24 Try.underlying34 infoRow rfl .i64 .i64 5 (by omega) (by omega) w
  have mkU : ∀ w, (Instr.makeSlice 36 (.int .i64 5) (.int .i64 5)).run Try.prog w = .ok (.slice (some ⟨w.heap.size, 0, none⟩) 5 5) (w.alloc (.cells (madeCells #[.bool false] 5) 4)) := fun w =>
    run_make_row' (P := Try.prog) 36 4 (.bool false) 1 Try.underlying36 infoBool rfl .i64 .i64 5 (by omega) (by omega) w
  clear hh h hcv
  go_enter Try.func3, Try.ntmps3
  go_wp2_with fail
  refine (awake5_any w).mono ?_
  rintro e w0 ⟨rfl, k0⟩
  have K0 := hid k0
  have H0 := hid (H.out.keep k0)
  have CV0 := hid (CV.out.keep k0 (by intro _ _ _ _ _; simp))
  clear k0
  go_wp2_with fail
  refine (room5_any w0 _ ds H0.out 40 (by omega)).mono ?_
  rintro e _ ⟨rb, rfl, rfl, hroom⟩
  cases rb with
  | false =>
    go_wp2_with fail
    go_ret
    exact ⟨rfl, K0.out⟩
  | true =>
    have RM := hid (hroom rfl)
    clear hroom
    by_cases hc : 200 < ch.length
    · have hc' : (200 : Int) < (ch.length : Int) := by omega
      go_wp2_with fail
      go_ret
      exact ⟨rfl, K0.out⟩
    · have hc' : ¬ (200 : Int) < (ch.length : Int) := by omega
      go_wp2_with fail
      refine (newAt_any 41 (by omega) (by omega) w0).mono ?_
      rintro e w1 ⟨p, F1, rfl, d1, l1, k1⟩
      have D1 := hid d1
      have L1 := hid l1
      have K1 := hid k1
      clear d1 l1 k1
      go_wp2_with fail
      refine (lOpen_good w1 p (blankS 41) F1 0 D1.out 1 5 (by show 1 ≤ 41; omega) rfl rfl (blank_good 41 1 5)).mono ?_
      rintro e w2 ⟨q, g, rfl, H2, n1, n2, k2⟩
      rw [blank_heads] at H2
      have S2 : Hid (SlNew w0 w2 q p g 1 (List.replicate 5 hd0) (blankS 41) F1 0) := hid ⟨H2, ⟨by have := K1.out.size; omega, by have := K1.out.size; omega, L1.out⟩, K1.out.trans k2⟩
      clear H2 n1 n2 k2 D1 L1 K1
      go_wp2_with fail
      refine (fuseAt_any w2 p _ F1 0 S2.out.at_.dk N (by omega)).mono ?_
      rintro e w3 ⟨rfl, d3, k3⟩
      have S3 : Hid (SlNew w0 w3 q p g 1 (List.replicate 5 hd0) (fuseS (blankS 41) N) F1 0) := hid (by
        obtain ⟨n1, n2, n3⟩ := S2.out.new
        refine ⟨⟨S2.out.at_.sl.keep k3 S2.out.at_.hq S2.out.at_.hg, d3, S2.out.at_.hq, S2.out.at_.hg, ?_⟩, S2.out.new, S2.out.kept.trans' k3 fun i hi hm => ?_⟩
        · exact Nat.le_of_ble_eq_true rfl
        · have := n3 i hm; omega)
      have RY : Hid (Ready (fuseS (blankS 41) N) 1 (List.replicate 5 hd0) fun _ => []) := hid (Ready.fuse (s := blankS 41) ⟨rfl, rfl, Reads.blank 41 1 5 (by omega) _⟩ N)
      have CN : Hid ((fuseS (blankS 41) N).cnt = 41 ∧ (fuseS (blankS 41) N).dead = false) := hid ⟨rfl, rfl⟩
      clear d3 k3 S2
      generalize fuseS (blankS 41) N = s0 at S3 RY CN
      go_wp2_with fail
      have lc := lCount_any w3 q p g 1 _ S3.out.at_.sl
      rw [List.length_replicate] at lc
      have LC := hid lc
      clear lc
      refine LC.out.mono ?_
      rintro e _ ⟨rfl, rfl⟩
      go_wp2_with fail
      have lc := lCount_any (w3.alloc (.cells (madeCells #[.slice none 0 0] 5) 23)) q p g 1 _ (S3.out.at_.sl.keep ((Keeps.refl [] w3).alloc _) (by simp) (by simp))
      rw [List.length_replicate] at lc
      refine lc.mono ?_
      rintro e _ ⟨rfl, rfl⟩
      go_wp2_with fail
      have kA : Keeps [] w3 (((w3.alloc (.cells (madeCells #[.slice none 0 0] 5) 23)).alloc (.cells (madeCells #[.bool false] 5) 4)).alloc (.cells #[] 5)) := (((Keeps.refl [] w3).alloc _).alloc _).alloc _
      have gA : (((w3.alloc (.cells (madeCells #[.slice none 0 0] 5) 23)).alloc (.cells (madeCells #[.bool false] 5) 4)).alloc (.cells #[] 5)).heap[w3.heap.size]? = _ := (Below.heap_alloc _ _ _ (by simp; omega)).trans (heap_alloc2_old w3 (.cells (madeCells #[.slice none 0 0] 5) 23) (.cells (madeCells #[.bool false] 5) 4))
      have bA : (((w3.alloc (.cells (madeCells #[.slice none 0 0] 5) 23)).alloc (.cells (madeCells #[.bool false] 5) 4)).alloc (.cells #[] 5)).heap[w3.heap.size + 1]? = _ := (Below.heap_alloc _ _ _ (by simp)).trans (heap_alloc2_new w3 (.cells (madeCells #[.slice none 0 0] 5) 23) (.cells (madeCells #[.bool false] 5) 4))
      have A0 : DyRel w0 (((w3.alloc (.cells (madeCells #[.slice none 0 0] 5) 23)).alloc (.cells (madeCells #[.bool false] 5) 4)).alloc (.cells #[] 5)) q p g w3.heap.size (w3.heap.size + 1) ds.length 0 (-1) (.slice (some ⟨w3.heap.size + 1 + 1, 0, none⟩) 0 0) := by
        have hz := S3.out.kept.size
        have hlt := S3.out.at_.sl.ltq
        have hlt2 := S3.out.at_.sl.ltg
        refine ⟨_, _, _, fun _ => false, fun _ => .slice none 0 0, fun _ => [], [], by omega, ⟨⟨(S3.out.keep kA).at_.mono (by omega), S3.out.new, (S3.out.keep kA).kept⟩, rfl, CN.out.1, by rw [gA, made5w], by rw [bA, made5f], fun _ _ => ⟨_, _, _, rfl⟩, by omega, fun b hb => ⟨fun hm => ?_, by rcases hb with rfl | rfl <;> omega⟩⟩, (fun _ _ h => by cases h), ⟨_, _, _, rfl⟩, .inl ⟨CN.out.2, rfl, RY.out, fun j hj => by rw [List.getElem_replicate]; rfl⟩⟩
        obtain ⟨m, dm⟩ := S3.out.at_.dk.dm
        have := dm.lt _ hm
        rcases hb with rfl | rfl <;> omega
      have AA := hid A0
      clear gA bA kA A0 S3 LC lc CN RY
      generalize ((w3.alloc (.cells (madeCells #[.slice none 0 0] 5) 23)).alloc (.cells (madeCells #[.bool false] 5) 4)).alloc (.cells #[] 5) = w4 at AA ⊢
      generalize w3.heap.size + 1 + 1 = ge at AA ⊢
      generalize w3.heap.size + 1 = gu at AA ⊢
      generalize w3.heap.size = gw at AA ⊢
      go_loopw [13, 14, 15] (fun x pv i wr => ∃ (k : Nat) (xi : Int), i = .int .i64 k ∧ x = .int .i64 xi ∧ DyRel w0 wr q p g gw gu ds.length k xi pv) (fun _ _ i _ => ds.length - (intOf i).toNat)
      case atStart => exact ⟨0, -1, rfl, rfl, AA.out⟩
      case round =>
        obtain ⟨k, xi, rfl, rfl, hs, s, F, us, wv, want, pl, hk, hD, hrow, ⟨pa, pn, pc, rfl⟩, hst⟩ := hrel
        rename_i wr _
        have A := hid hD
        have ROW := hid hrow
        clear hD hrow
        by_cases hlt : k < ds.length
        · have hlt' : (k : Int) < (ds.length : Int) := by omega
          rcases hst with ⟨hdd, rfl, hry, hus⟩ | ⟨hdd, hpv, hfin⟩
          · go_wp2_with fail
            have dd := deadAt_any wr p s F _ A.out.sl.at_.dk
            rw [hdd] at dd
            refine dd.mono ?_
            rintro e _ ⟨rfl, rfl⟩
            have HDD := hid hdd
            have RY := hid hry
            have US := hid hus
            clear dd hdd hry hus
            obtain ⟨dg, off, dcap, hde, hcp, hd⟩ : ∃ dg off dcap, a = some ⟨dg, off, none⟩ ∧ cap = dcap ∧ ∀ i (h : i < ds.length), D5At w0 dg (off + i * 5) ds[i] := by
              obtain ⟨a', c', e, _, _, _, h3⟩ := H0.out
              obtain ⟨g', o', rfl, h4⟩ := h3 (by rintro rfl; simp at hlt)
              injection e with e1 _ e2
              exact ⟨g', o', c', e1, e2, h4⟩
            subst hde
            subst hcp
            have DD := hid ((hd k hlt).keep A.out.sl.kept)
            have DD0 := hid (hd k hlt)
            have hmem : ds[k] ∈ ds := List.getElem_mem hlt
            have hdgw : dg < w0.heap.size := World.block_lt_of_cell? w0 _ (hd k hlt).c0
            generalize ds[k] = d at DD DD0 hmem
            have c0 := DD.out.c0
            have c1 := DD.out.c1
            have b1 := DD.out.b1
            obtain ⟨kk, hkk, hke⟩ := mod5 d.i
            have hk5 : kk < hs.length := by rw [A.out.five]; exact hkk
            have hkt : (kk : Int) < 5 := by omega
            have CQ : Hid (∀ n, Calls Try.prog 10 #[.pointer (some ⟨q, 0, none⟩)] (wr.drewN n) fun e w' => e = .returned (.int .i64 5) ∧ wr.drewN n = w') := hid fun n => by
              have := lCount_any (wr.drewN n) q p g 1 hs (A.out.keep ((Keeps.refl [] wr).drewN n)).sl.at_.sl
              rw [A.out.five] at this
              exact this
            clear hd hmem
            go_wp2_with fail
            go_quiet ((go_at_call 10; exact quiet_q (CQ.out _)))
            have A4 := hid (A.out.keep ((Keeps.refl [] wr).drewN nq))
            have DD4 := hid (DD.out.keep ((Keeps.refl [] wr).drewN nq))
            generalize wr.drewN nq = w4 at A4 DD4 ⊢
            clear c0 c1 CQ hke
            have c0 := DD4.out.c0
            have c3 := DD4.out.c3
            have c4 := DD4.out.c4
            obtain ⟨ka, kc, hkv, -⟩ := DD4.out.rk
            obtain ⟨ba, bc, hbv, -⟩ := DD4.out.rb
            rw [hkv] at c3
            rw [hbv] at c4
            have cu := A4.out.cu kk hkk
            have ek := US.out kk hk5
            have EK := hid ek
            clear ek
            have HKV := hid hkv
            have HBV := hid hbv
            clear hkv hbv
            by_cases hput : d.act ≤ 4 ∧ d.key.length ≤ 40 ∧ d.b.length ≤ 448 ∧ us kk = false
            · obtain ⟨h4, hkl, hbl, huk⟩ := hput
              have hkl' : (d.key.length : Int) ≤ 40 := by omega
              have hbl' : (d.b.length : Int) ≤ 448 := by omega
              rw [huk] at cu
              have hDk : k * 80 ≤ 60 * 80 := by have := RM.out.1; omega
              have hzr := A4.out.sl.kept.size
              have hq0 := A4.out.sl.new
              go_wp2_with fail
              refine wp_region_any (by kernel_rfl) (wpAny_of_held (S := KpS (g :: F) w4.heap.size w4.drew) _ _ _ _ ?_)
              change wpAnyH _ _ _ _ _ _ _ _ w4.drew
              have dF : dg ∉ g :: F := fun hm => by
                rcases List.mem_cons.1 hm with hm | hm
                · omega
                · have := hq0.2.2 _ hm; omega
              have cD : ∀ W1, KpS (g :: F) w4.heap.size w4.drew W1 → ∀ j u, w4.cell? ⟨dg, off + k * 5 + j, none⟩ = some u → W1.cell? ⟨dg, off + k * 5 + j, none⟩ = some u := fun W1 h j u hu => h.cell (by rw [World.cell?_drew]; exact hu) (by omega) dF
              refine held_take (i := 0) (v := .pointer (some ⟨q, 0, none⟩)) rfl (by kernel_rfl) (by kernel_rfl) (by kernel_rfl) (fun _ _ _ h => h) rfl (fun W1 hW1 => rfl) (KpS.refl _ _ _) ?_
              simp only [Act.put, List.setIfInBounds_toArray, List.set_cons_zero, List.set_cons_succ]
              refine held_take (i := 1) (v := .int .i64 kk) rfl (by kernel_rfl) (by kernel_rfl) (by kernel_rfl) (fun _ _ _ h => h) rfl (fun W1 hW1 => rfl) (KpS.refl _ _ _) ?_
              simp only [Act.put, List.setIfInBounds_toArray, List.set_cons_zero, List.set_cons_succ]
              refine held_take (i := 2) (v := .slice (some ⟨dg, off, none⟩) ds.length cap) rfl (by kernel_rfl) (by kernel_rfl) (by kernel_rfl) (fun _ _ _ h => h) rfl (fun W1 hW1 => rfl) (KpS.refl _ _ _) ?_
              simp only [Act.put, List.setIfInBounds_toArray, List.set_cons_zero, List.set_cons_succ]
              refine held_take (i := 3) (v := .int .i64 k) rfl (by kernel_rfl) (by kernel_rfl) (by kernel_rfl) (fun _ _ _ h => h) rfl (fun W1 hW1 => rfl) (KpS.refl _ _ _) ?_
              simp only [Act.put, List.setIfInBounds_toArray, List.set_cons_zero, List.set_cons_succ]
              refine held_take (i := 4) (v := .pointer (some ⟨dg, off + k * 5, none⟩)) rfl (by kernel_rfl) (by kernel_rfl) (by kernel_rfl) (fun _ _ _ h => h) rfl (fun W1 hW1 => by go_simp) (KpS.refl _ _ _) ?_
              simp only [Act.put, List.setIfInBounds_toArray, List.set_cons_zero, List.set_cons_succ]
              refine held_take (i := 5) (v := .pointer (some ⟨dg, off + k * 5 + 3, none⟩)) rfl (by kernel_rfl) (by kernel_rfl) (by kernel_rfl) (fun _ _ _ h => h) rfl (fun W1 hW1 => by go_simp) (KpS.refl _ _ _) ?_
              simp only [Act.put, List.setIfInBounds_toArray, List.set_cons_zero, List.set_cons_succ]
              refine held_take (i := 6) (v := d.kv) rfl (by kernel_rfl) (by kernel_rfl) (by kernel_rfl) (fun _ _ _ h => h) rfl (fun W1 hW1 => exec_load _ _ _ _ rfl rfl (run_loadCell W1 _ _ _ (cD W1 hW1 3 _ DD4.out.c3) (agg_no _ (by kernel_rfl)))) (KpS.refl _ _ _) ?_
              simp only [Act.put, List.setIfInBounds_toArray, List.set_cons_zero, List.set_cons_succ]
              refine held_take (i := 7) (v := .slice (some ⟨dg, off, none⟩) ds.length cap) rfl (by kernel_rfl) (by kernel_rfl) (by kernel_rfl) (fun _ _ _ h => h) rfl (fun W1 hW1 => rfl) (KpS.refl _ _ _) ?_
              simp only [Act.put, List.setIfInBounds_toArray, List.set_cons_zero, List.set_cons_succ]
              refine held_take (i := 8) (v := .int .i64 k) rfl (by kernel_rfl) (by kernel_rfl) (by kernel_rfl) (fun _ _ _ h => h) rfl (fun W1 hW1 => rfl) (KpS.refl _ _ _) ?_
              simp only [Act.put, List.setIfInBounds_toArray, List.set_cons_zero, List.set_cons_succ]
              refine held_take (i := 9) (v := .pointer (some ⟨dg, off + k * 5, none⟩)) rfl (by kernel_rfl) (by kernel_rfl) (by kernel_rfl) (fun _ _ _ h => h) rfl (fun W1 hW1 => by go_simp) (KpS.refl _ _ _) ?_
              simp only [Act.put, List.setIfInBounds_toArray, List.set_cons_zero, List.set_cons_succ]
              refine held_take (i := 10) (v := .pointer (some ⟨dg, off + k * 5 + 4, none⟩)) rfl (by kernel_rfl) (by kernel_rfl) (by kernel_rfl) (fun _ _ _ h => h) rfl (fun W1 hW1 => by go_simp) (KpS.refl _ _ _) ?_
              simp only [Act.put, List.setIfInBounds_toArray, List.set_cons_zero, List.set_cons_succ]
              refine held_take (i := 11) (v := d.bv) rfl (by kernel_rfl) (by kernel_rfl) (by kernel_rfl) (fun _ _ _ h => h) rfl (fun W1 hW1 => exec_load _ _ _ _ rfl rfl (run_loadCell W1 _ _ _ (cD W1 hW1 4 _ DD4.out.c4) (agg_no _ (by kernel_rfl)))) (KpS.refl _ _ _) ?_
              simp only [Act.put, List.setIfInBounds_toArray, List.set_cons_zero, List.set_cons_succ]
              have AD := A4.out.keep (Keeps.refl [] w4).drew
              have DDr := DD4.out.keep (Keeps.refl [] w4).drew
              have offK : Off F d.kv d.key := A4.out.sl.off DD0.out.rk
              have offB : Off F d.bv d.b := A4.out.sl.off DD0.out.rb
              refine held_do (i := 12) (by kernel_rfl) rfl rfl (wp_enter (f := 12) (args := #[.pointer (some ⟨q, 0, none⟩), .int .i64 kk, d.kv, d.bv]) (by go_simp) (lPut_any w4.drew q p g 1 hs s F (k * 80) AD.sl.at_ (by omega) (kk : Int) d.kv d.key DDr.rk offK d.bv d.b DDr.rb offB) ?_)
              intro e w5 hp
              have pcnt := putS_cnt hs 1 s kk d.key d.b
              rw [A.out.cnt] at pcnt
              have PE := put_die RY.out HDD.out kk hk5 (EK.out.trans huk) d.key d.b hkl hbl DD0.out.rk.bytes DD0.out.rb.bytes
              have PL : (putH hs 1 s kk d.key d.b).length = 5 := by
                rcases PE with ⟨_, e, _⟩ | ⟨_, e, _⟩ <;> rw [e]
                · rw [List.length_set]; exact A.out.five
                · exact A.out.five
              obtain ⟨rfl, F5, D5h, kp⟩ := AD.post hp PL pcnt
              have kk5 : KpS (g :: F) w4.heap.size w4.drew w5 := (KpS.refl _ _ _).keeps kp (Nat.le_refl _) (fun i hi _ => hi)
              refine ⟨_, rfl, kk5, ?_⟩
              simp only [Act.put, List.setIfInBounds_toArray, List.set_cons_zero, List.set_cons_succ]
              have c04 : w5.cell? ⟨dg, off + k * 5, none⟩ = some (.int .i64 d.act) := cD w5 kk5 0 _ c0
              have c44 : w5.cell? ⟨dg, off + k * 5 + 4, none⟩ = some d.bv := cD w5 kk5 4 _ DD4.out.c4
              rw [HBV.out] at c44
              rcases PE with ⟨p1, p2, p3, p4⟩ | ⟨p1, p2, p3, p4⟩
              · rw [p1]
                refine held_take (i := 13) (v := .bool true) rfl (by kernel_rfl) (by kernel_rfl) (by kernel_rfl) (fun _ _ _ h => h) rfl (fun W1 hW1 => by go_simp) (kk5) ?_
                simp only [Act.put, List.setIfInBounds_toArray, List.set_cons_zero, List.set_cons_succ]
                refine wpAnyH_done (by kernel_rfl) ?_ _
                have D5H := hid D5h
                have P2 := hid p2
                have P3 := hid p3
                have P4 := hid p4
                clear AD DDr offK offB cD kk5 kp hp D5h p1 p2 p3 p4 PL pcnt
                have cu5 : w5.cell? ⟨gu, kk, none⟩ = some (.bool false) := by have := D5H.out.cu kk hkk; rw [huk] at this; exact this
                have fu5 := D5H.out.fu kk
                have A6 := hid (D5H.out.used kk true)
                have hdgu : dg ≠ gu := by have := A.out.new.2.1; omega
                have hdgw2 : dg ≠ gw := by have := A.out.new.1; omega
                have c46 : (w5.setCell ⟨gu, kk, none⟩ (.bool true)).cell? ⟨dg, off + k * 5 + 4, none⟩ = some (.slice ba d.b.length bc) := by
                  rw [World.cell?_of_block (w := w5) (Below.heap_setCell _ _ _ _ hdgu)]
                  exact c44
                have fw6 := A6.out.fw kk
                obtain ⟨sa, sn, sc, hsl⟩ := A.out.sli kk hkk
                have cw6 := A6.out.cw kk hkk
                rw [hsl] at cw6
                have A7 := hid (A6.out.wants kk (.slice ba d.b.length bc) ⟨_, _, _, rfl⟩)
                have HSL := hid hsl
                clear hsl
                rw [← HBV.out] at A7
                have ROW2 : Hid (∀ j, j < 5 → upd us kk true j = true → RowAt w0 (upd wv kk d.bv j) (upd want kk d.b j)) := hid fun j hj hu => by
                  by_cases e : j = kk
                  · subst e; rw [upd_same, upd_same]; exact DD0.out.rb
                  · rw [upd_ne _ _ e] at hu; rw [upd_ne _ _ e, upd_ne _ _ e]; exact ROW.out j hj hu
                have US2 : Hid (∀ j (h : j < (putH hs 1 s kk d.key d.b).length), (putH hs 1 s kk d.key d.b)[j].used = upd us kk true j) := hid (by
                  rw [P2.out]
                  intro j hj
                  rw [List.length_set] at hj
                  by_cases e : j = kk
                  · subst e; rw [List.getElem_set_self, upd_same]
                  · rw [List.getElem_set_ne (fun h => e h.symm), upd_ne _ _ e]; exact US.out j hj)
                rw [← P2.out] at P4
                have NEW : Hid (DyRel w0 ((w5.setCell ⟨gu, kk, none⟩ (.bool true)).setCell ⟨gw, kk, none⟩ d.bv) q p g gw gu ds.length (k + 1) (-1) (.slice pa pn pc)) :=
                  hid ⟨_, _, _, _, _, _, [], by omega, A7.out.mono (by omega), ROW2.out, ⟨_, _, _, rfl⟩, .inl ⟨P3.out, rfl, P4.out, US2.out⟩⟩
                rw [HBV.out] at NEW
                go_wp2_with fail
                go_roundw
                case rel => exact ⟨k + 1, -1, by go_num, rfl, NEW.out⟩
                case measure => simp [intOf]; omega
              · rw [p1]
                refine held_take (i := 13) (v := .bool false) rfl (by kernel_rfl) (by kernel_rfl) (by kernel_rfl) (fun _ _ _ h => h) rfl (fun W1 hW1 => by go_simp) (kk5) ?_
                simp only [Act.put, List.setIfInBounds_toArray, List.set_cons_zero, List.set_cons_succ]
                refine wpAnyH_done (by kernel_rfl) ?_ _
                have D5H := hid D5h
                have P2 := hid p2
                have P3 := hid p3
                have P4 := hid p4
                clear AD DDr offK offB cD kk5 kp hp D5h p1 p2 p3 p4 PL pcnt
                go_wp2_with fail
                go_quiet (fail)
                have FN := fin_put kk hk5 A.out.five US.out (EK.out.trans huk) d.key d.b P4.out
                have rbv := DD0.out.rb
                rw [HBV.out] at rbv
                have NEW : Hid (DyRel w0 (w5.drewN nq) q p g gw gu ds.length (k + 1) kk (.slice ba d.b.length bc)) :=
                  hid ⟨_, _, _, _, _, _, _, by omega, (D5H.out.keep ((Keeps.refl [] w5).drewN nq)).mono (by omega), ROW.out, ⟨_, _, _, rfl⟩, .inr ⟨P3.out, rbv, FN⟩⟩
                clear FN rbv
                generalize w5.drewN nq = w6 at NEW ⊢
                go_wp2_with fail
                go_roundw
                case rel => exact ⟨k + 1, kk, by go_num, rfl, NEW.out⟩
                case measure => simp [intOf]; omega
            · by_cases hclr : d.act = 6 ∧ us kk = true
              · obtain ⟨h6, huk⟩ := hclr
                rw [huk] at cu
                have h4 : ¬ d.act ≤ 4 := by omega
                have t6 : (d.act == 6) = true := by simpa using h6
                have hDk : k * 80 ≤ 60 * 80 := by have := RM.out.1; omega
                go_wp2_with fail
                have TH := clear_die RY.out HDD.out kk hk5 (EK.out.trans huk)
                refine (lClear_any w4 q p g 1 hs s F (k * 80) A4.out.sl.at_ (by omega) (kk : Int)).mono ?_
                intro e w5 hp
                have pcnt := clearS_cnt hs 1 s kk
                rw [A.out.cnt] at pcnt
                have PL : (clearH hs 1 s kk).length = 5 := by
                  rcases TH with ⟨_, e, _⟩ | ⟨_, e, _⟩ <;> rw [e]
                  · rw [List.length_set]; exact A.out.five
                  · exact A.out.five
                obtain ⟨rfl, F5, D5h, kp⟩ := A4.out.post hp PL pcnt
                have D5H := hid D5h
                clear D5h kp hp PL pcnt
                rcases TH with ⟨p1, p2, p3, p4⟩ | ⟨p1, p2, p3, p4⟩
                · have P2 := hid p2
                  have P3 := hid p3
                  have P4 := hid p4
                  rw [p1]
                  clear p1 p2 p3 p4
                  have cu5 : w5.cell? ⟨gu, kk, none⟩ = some (.bool true) := by have := D5H.out.cu kk hkk; rw [huk] at this; exact this
                  have fu5 := D5H.out.fu kk
                  have A6 := hid (D5H.out.used kk false)
                  have ROW2 : Hid (∀ j, j < 5 → upd us kk false j = true → RowAt w0 (wv j) (want j)) := hid fun j hj hu => by
                    by_cases e : j = kk
                    · subst e; rw [upd_same] at hu; cases hu
                    · rw [upd_ne _ _ e] at hu; exact ROW.out j hj hu
                  have US2 : Hid (∀ j (h : j < (clearH hs 1 s kk).length), (clearH hs 1 s kk)[j].used = upd us kk false j) := hid (by
                    rw [P2.out]
                    intro j hj
                    rw [List.length_set] at hj
                    by_cases e : j = kk
                    · subst e; rw [List.getElem_set_self, upd_same]; rfl
                    · rw [List.getElem_set_ne (fun h => e h.symm), upd_ne _ _ e]; exact US.out j hj)
                  rw [← P2.out] at P4
                  have NEW : Hid (DyRel w0 (w5.setCell ⟨gu, kk, none⟩ (.bool false)) q p g gw gu ds.length (k + 1) (-1) (.slice pa pn pc)) :=
                    hid ⟨_, _, _, _, _, _, [], by omega, A6.out.mono (by omega), ROW2.out, ⟨_, _, _, rfl⟩, .inl ⟨P3.out, rfl, P4.out, US2.out⟩⟩
                  go_wp2_with fail
                  go_roundw
                  case rel => exact ⟨k + 1, -1, by go_num, rfl, NEW.out⟩
                  case measure => simp [intOf]; omega
                · have P3 := hid p3
                  have P4 := hid p4
                  rw [p1]
                  clear p1 p2 p3 p4
                  obtain ⟨sa, sn, sc, hsl⟩ := A.out.sli kk hkk
                  have cw5 := D5H.out.cw kk hkk
                  rw [hsl] at cw5
                  have HSL := hid hsl
                  clear hsl
                  go_wp2_with fail
                  go_quiet (fail)
                  have FN := fin_clear kk hk5 A.out.five US.out P4.out
                  have rbv := ROW.out kk hkk huk
                  rw [HSL.out] at rbv
                  have NEW : Hid (DyRel w0 (w5.drewN nq) q p g gw gu ds.length (k + 1) kk (.slice sa sn sc)) :=
                    hid ⟨_, _, _, _, _, _, _, by omega, (D5H.out.keep ((Keeps.refl [] w5).drewN nq)).mono (by omega), ROW.out, ⟨_, _, _, rfl⟩, .inr ⟨P3.out, rbv, FN⟩⟩
                  clear FN rbv
                  generalize w5.drewN nq = w6 at NEW ⊢
                  go_wp2_with fail
                  go_roundw
                  case rel => exact ⟨k + 1, kk, by go_num, rfl, NEW.out⟩
                  case measure => simp [intOf]; omega
              · have NEW : Hid (DyRel w0 w4 q p g gw gu ds.length (k + 1) (-1) (.slice pa pn pc)) :=
                  hid ⟨_, _, _, _, _, _, [], by omega, A4.out.mono (by omega), ROW.out, ⟨_, _, _, rfl⟩, .inl ⟨HDD.out, rfl, RY.out, US.out⟩⟩
                have hnone : (¬ d.act ≤ 4 ∧ d.act = 6 ∧ us kk = false) ∨ (¬ d.act ≤ 4 ∧ ¬ d.act = 6) ∨ (d.act ≤ 4 ∧ 40 < d.key.length) ∨ (d.act ≤ 4 ∧ d.key.length ≤ 40 ∧ 448 < d.b.length) ∨ (d.act ≤ 4 ∧ d.key.length ≤ 40 ∧ d.b.length ≤ 448 ∧ us kk = true) := by
                  cases hu : us kk <;> simp only [hu] at hput hclr ⊢ <;> simp at hput hclr ⊢ <;> omega
                clear hput hclr
                have hDk : k * 80 ≤ 60 * 80 := by have := RM.out.1; omega
                rcases hnone with ⟨h4, h6, huk⟩ | ⟨h4, h6⟩ | ⟨h4, h40⟩ | ⟨h4, h40, h448⟩ | ⟨h4, h40, h448, huk⟩
                · rw [huk] at cu
                  have t6 : (d.act == 6) = true := by simpa using h6
                  go_wp2_with fail
                  go_roundw
                  case rel => exact ⟨k + 1, -1, by go_num, rfl, NEW.out⟩
                  case measure => simp [intOf]; omega
                · have t6 : (d.act == 6) = false := by simpa using h6
                  go_wp2_with fail
                  go_roundw
                  case rel => exact ⟨k + 1, -1, by go_num, rfl, NEW.out⟩
                  case measure => simp [intOf]; omega
                · have h6 : ¬ d.act = 6 := by omega
                  have t6 : (d.act == 6) = false := by simpa using h6
                  have h40' : ¬ (d.key.length : Int) ≤ 40 := by omega
                  go_wp2_with fail
                  go_roundw
                  case rel => exact ⟨k + 1, -1, by go_num, rfl, NEW.out⟩
                  case measure => simp [intOf]; omega
                · have h6 : ¬ d.act = 6 := by omega
                  have t6 : (d.act == 6) = false := by simpa using h6
                  have h40' : (d.key.length : Int) ≤ 40 := by omega
                  have h448' : ¬ (d.b.length : Int) ≤ 448 := by omega
                  go_wp2_with fail
                  go_roundw
                  case rel => exact ⟨k + 1, -1, by go_num, rfl, NEW.out⟩
                  case measure => simp [intOf]; omega
                · rw [huk] at cu
                  have h6 : ¬ d.act = 6 := by omega
                  have t6 : (d.act == 6) = false := by simpa using h6
                  have h40' : (d.key.length : Int) ≤ 40 := by omega
                  have h448' : (d.b.length : Int) ≤ 448 := by omega
                  go_wp2_with fail
                  go_roundw
                  case rel => exact ⟨k + 1, -1, by go_num, rfl, NEW.out⟩
                  case measure => simp [intOf]; omega
          · go_wp2_with fail
            have dd := deadAt_any wr p s F _ A.out.sl.at_.dk
            rw [hdd] at dd
            refine dd.mono ?_
            rintro e _ ⟨rfl, rfl⟩
            have FIN := hid hfin
            have PV : Hid (xi = -1 ∨ RowAt w0 (.slice pa pn pc) pl) := hid (.inr hpv)
            have HDD := hid hdd
            clear dd hdd hfin hpv
            go_wp2_with fail
            refine (crash_any wr p s F _ A.out.sl.at_.dk (by have := RM.out.1; omega) (.slice ca ch.length cc) ch (by omega) (CV0.out.keep A.out.sl.kept (by intro _ _ _ _ _; simp))).mono ?_
            rintro e w5 ⟨pd, F5, rfl, d5, n5, k5⟩
            obtain ⟨hs2, want2, RD, h52, HF⟩ := FIN.out ch
            have cnt5 : (s.crashed ch).cnt = 41 := A.out.cnt
            generalize s.crashed ch = sc at d5 RD cnt5
            have A5 := hid (A.out.keep k5)
            have hall : headsS sc 1 5 = hs2 := by have := RD.all; rw [h52] at this; exact this
            have OP := lOpen_good w5 pd sc F5 _ d5 1 5 (by omega) (by omega) RD.alive.1 (by have := RD.good; rw [h52] at this; exact this)
            rw [hall] at OP
            have OPH := hid OP
            have RDH := hid RD
            have HFH := hid HF
            have H52 := hid h52
            clear OP hall d5 n5 k5 RD HF h52 cnt5
            go_wp2_with fail
            refine OPH.out.mono ?_
            rintro e w6 ⟨q2, g2, rfl, t6, _, _, k6⟩
            have T6 := hid t6
            have A6 := hid (A5.out.keep k6)
            clear t6 k6 OPH A5
            go_wp2_with fail
            go_loopw [19] (fun i wr => ∃ m : Nat, m ≤ 5 ∧ i = .int .i64 m ∧ Keeps [] w6 wr) (fun i _ => 5 - (intOf i).toNat)
            case atStart => exact ⟨0, by omega, rfl, Keeps.refl _ _⟩
            case round =>
              obtain ⟨m, hm, rfl, kz⟩ := hrel
              have T7 := hid (T6.out.keep kz (by simp) (by simp) (by simp))
              have KZ := hid kz
              have lc := lCount_any wr q2 pd g2 1 hs2 T7.out.sl
              rw [H52.out] at lc
              have LC2 := hid lc
              clear lc kz
              go_wp2_with fail
              refine LC2.out.mono ?_
              rintro e _ ⟨rfl, rfl⟩
              clear LC2
              by_cases hm5 : m < 5
              · have hm5' : (m : Int) < ((5 : Nat) : Int) := by omega
                have hm52 : m < hs2.length := by rw [H52.out]; exact hm5
                have hal := RDH.out.alive.1
                have HAL := hid hal
                clear hal
                obtain ⟨sa, sn, sc2, hsl⟩ := A6.out.sli m hm5
                by_cases hu : hs2[m].used = true
                · have HU := hid hu
                  clear hu
                  have hgb : getB sc (1 + m * 8) hs2[m].held = want2 m := RDH.out.holds m hm52 HU.out
                  have hwl : (want2 m).length ≤ 1000000 := by rw [← hgb]; unfold getB; rw [List.length_take, imageL_len]; omega
                  go_wp2_with fail
                  refine (callsIn_wide.1 (get_in 9 (by omega) wr q2 pd g2 1 hs2 sc F5 _ T7.out m (1 + m * 8) rfl hm52 HU.out HAL.out)).mono ?_
                  rintro e w8 ⟨vb, rfl, rb, nb, k8⟩
                  rw [hgb] at rb
                  have RB := hid rb
                  have K8 := hid (KZ.out.trans k8)
                  have T8 := hid (T7.out.keep k8 (by simp) (by simp) (by simp))
                  have A8 := hid (A6.out.keep K8.out)
                  clear rb nb k8 hgb
                  by_cases hx : (m : Int) = xi
                  · have hpl : want2 m = pl := by have := HFH.out m hm52; rw [if_pos hx] at this; exact this HU.out
                    have hpr : RowAt w0 (.slice pa pn pc) pl := by
                      rcases PV.out with h | h
                      · omega
                      · exact h
                    have PR := hid (hpr.keep A8.out.sl.kept (by intro _ _ _ _ _; simp))
                    rw [← hpl] at PR
                    have tx : ((m : Int) == xi) = true := by simpa using hx
                    have HX := hid hx
                    have HPL := hid hpl
                    clear hx hpl hpr
                    go_wp2_with fail
                    refine (same_true w8 vb _ (want2 m) RB.out PR.out hwl).mono ?_
                    rintro e w9 ⟨rfl, k9⟩
                    have K9 := hid (K8.out.trans k9)
                    clear k9
                    go_wp2_with fail
                    go_roundw
                    case rel => exact ⟨m + 1, by omega, by go_num, K9.out⟩
                    case measure => simp [intOf]; omega
                  · have tx : ((m : Int) == xi) = false := by simpa using hx
                    have hue := HFH.out m hm52
                    rw [if_neg hx, HU.out] at hue
                    have hwe := hue.2 hue.1.symm
                    have RW := ROW.out m hm5 hue.1.symm
                    rw [← hwe, hsl] at RW
                    have RWH := hid (RW.keep A8.out.sl.kept (by intro _ _ _ _ _; simp))
                    have HUE := hid hue
                    have HSL := hid hsl
                    clear hue hwe RW hx hsl
                    go_wp2_with fail
                    refine wp_region_any (by kernel_rfl) (wpAny_of_held (S := KpS [] w8.heap.size w8.drew) _ _ _ _ ?_)
                    change wpAnyH _ _ _ _ _ _ _ _ w8.drew
                    have cU : ∀ W1, KpS [] w8.heap.size w8.drew W1 → W1.cell? ⟨gu, m, none⟩ = some (.bool true) := fun W1 h => h.cell (by rw [World.cell?_drew]; have := A8.out.cu m hm5; rw [← HUE.out.1] at this; exact this) (lt_of_block A8.out.u5) (by simp)
                    have cW : ∀ W1, KpS [] w8.heap.size w8.drew W1 → W1.cell? ⟨gw, m, none⟩ = some (.slice sa sn sc2) := fun W1 h => h.cell (by rw [World.cell?_drew]; have := A8.out.cw m hm5; rw [HSL.out] at this; exact this) (lt_of_block A8.out.w5) (by simp)
                    refine held_take (i := 0) (v := .pointer (some ⟨q2, 0, none⟩)) rfl (by kernel_rfl) (by kernel_rfl) (by kernel_rfl) (fun _ _ _ h => h) rfl (fun W1 hW1 => rfl) (KpS.refl _ _ _) ?_
                    simp only [Act.put, List.setIfInBounds_toArray, List.set_cons_zero, List.set_cons_succ]
                    refine held_take (i := 1) (v := .int .i64 m) rfl (by kernel_rfl) (by kernel_rfl) (by kernel_rfl) (fun _ _ _ h => h) rfl (fun W1 hW1 => rfl) (KpS.refl _ _ _) ?_
                    simp only [Act.put, List.setIfInBounds_toArray, List.set_cons_zero, List.set_cons_succ]
                    refine held_take (i := 3) (v := .slice (some ⟨gu, 0, none⟩) 5 5) rfl (by kernel_rfl) (by kernel_rfl) (by kernel_rfl) (fun _ _ _ h => h) rfl (fun W1 hW1 => rfl) (KpS.refl _ _ _) ?_
                    simp only [Act.put, List.setIfInBounds_toArray, List.set_cons_zero, List.set_cons_succ]
                    refine held_take (i := 4) (v := .int .i64 m) rfl (by kernel_rfl) (by kernel_rfl) (by kernel_rfl) (fun _ _ _ h => h) rfl (fun W1 hW1 => rfl) (KpS.refl _ _ _) ?_
                    simp only [Act.put, List.setIfInBounds_toArray, List.set_cons_zero, List.set_cons_succ]
                    refine held_take (i := 5) (v := .pointer (some ⟨gu, m, none⟩)) rfl (by kernel_rfl) (by kernel_rfl) (by kernel_rfl) (fun _ _ _ h => h) rfl (fun W1 hW1 => by go_simp) (KpS.refl _ _ _) ?_
                    simp only [Act.put, List.setIfInBounds_toArray, List.set_cons_zero, List.set_cons_succ]
                    refine held_take (i := 6) (v := .bool true) rfl (by kernel_rfl) (by kernel_rfl) (by kernel_rfl) (fun _ _ _ h => h) rfl (fun W1 hW1 => exec_load _ _ _ _ rfl rfl (run_loadCell W1 _ _ _ (cU W1 hW1) (agg_no _ (by kernel_rfl)))) (KpS.refl _ _ _) ?_
                    simp only [Act.put, List.setIfInBounds_toArray, List.set_cons_zero, List.set_cons_succ]
                    have kd : Keeps [] w8 w8.drew := (Keeps.refl [] w8).drew
                    have us2 := lUsed_any w8.drew q2 pd g2 1 hs2 (T8.out.sl.keep kd (by simp) (by simp)) m
                    rw [usedS, headS_at hm52, HU.out] at us2
                    refine held_do (i := 2) (by kernel_rfl) rfl rfl (wp_enter (f := 17) (args := #[.pointer (some ⟨q2, 0, none⟩), .int .i64 m]) (by go_simp) (us2) ?_)
                    rintro e wb ⟨rfl, rfl⟩
                    have sA : KpS [] w8.heap.size w8.drew w8.drew := KpS.refl _ _ _
                    refine ⟨_, rfl, sA, ?_⟩
                    simp only [Act.put, List.setIfInBounds_toArray, List.set_cons_zero, List.set_cons_succ]
                    refine held_take (i := 7) (v := .bool false) rfl (by kernel_rfl) (by kernel_rfl) (by kernel_rfl) (fun _ _ _ h => h) rfl (fun W1 hW1 => by go_simp) (KpS.refl _ _ _) ?_
                    simp only [Act.put, List.setIfInBounds_toArray, List.set_cons_zero, List.set_cons_succ]
                    refine held_take (i := 8) (v := .bool false) rfl (by kernel_rfl) (by kernel_rfl) (by kernel_rfl) (fun _ _ _ h => h) rfl (fun W1 hW1 => rfl) (KpS.refl _ _ _) ?_
                    simp only [Act.put, List.setIfInBounds_toArray, List.set_cons_zero, List.set_cons_succ]
                    refine held_takeW (i := 9) (v := .slice (some ⟨gu, 0, none⟩) 5 5) rfl (by kernel_rfl) (by kernel_rfl) (by kernel_rfl) (fun _ _ _ h => h) rfl (fun W1 hW1 => rfl) (KpS.refl _ _ _) ?_
                    simp only [Act.put, List.setIfInBounds_toArray, List.set_cons_zero, List.set_cons_succ]
                    refine held_takeW (i := 10) (v := .int .i64 m) rfl (by kernel_rfl) (by kernel_rfl) (by kernel_rfl) (fun _ _ _ h => h) rfl (fun W1 hW1 => rfl) (KpS.refl _ _ _) ?_
                    simp only [Act.put, List.setIfInBounds_toArray, List.set_cons_zero, List.set_cons_succ]
                    refine held_takeW (i := 11) (v := .pointer (some ⟨gu, m, none⟩)) rfl (by kernel_rfl) (by kernel_rfl) (by kernel_rfl) (fun _ _ _ h => h) rfl (fun W1 hW1 => by go_simp) (KpS.refl _ _ _) ?_
                    simp only [Act.put, List.setIfInBounds_toArray, List.set_cons_zero, List.set_cons_succ]
                    refine held_takeW (i := 12) (v := .bool true) rfl (by kernel_rfl) (by kernel_rfl) (by kernel_rfl) (fun _ _ _ h => h) rfl (fun W1 hW1 => exec_load _ _ _ _ rfl rfl (run_loadCell W1 _ _ _ (cU W1 hW1) (agg_no _ (by kernel_rfl)))) (KpS.refl _ _ _) ?_
                    simp only [Act.put, List.setIfInBounds_toArray, List.set_cons_zero, List.set_cons_succ]
                    refine held_takeW (i := 13) (v := .bool true) rfl (by kernel_rfl) (by kernel_rfl) (by kernel_rfl) (fun _ _ _ h => h) rfl (fun W1 hW1 => rfl) (KpS.refl _ _ _) ?_
                    simp only [Act.put, List.setIfInBounds_toArray, List.set_cons_zero, List.set_cons_succ]
                    refine held_takeW (i := 14) (v := .int .i64 0) rfl (by kernel_rfl) (by kernel_rfl) (by kernel_rfl) (fun _ _ _ h => h) rfl (fun W1 hW1 => rfl) (KpS.refl _ _ _) ?_
                    simp only [Act.put, List.setIfInBounds_toArray, List.set_cons_zero, List.set_cons_succ]
                    refine held_takeW (i := 15) (v := .bool false) rfl (by kernel_rfl) (by kernel_rfl) (by kernel_rfl) (fun _ _ _ h => h) rfl (fun W1 hW1 => by go_simp) (KpS.refl _ _ _) ?_
                    simp only [Act.put, List.setIfInBounds_toArray, List.set_cons_zero, List.set_cons_succ]
                    refine held_takeW (i := 16) (v := .bool false) rfl (by kernel_rfl) (by kernel_rfl) (by kernel_rfl) (fun _ _ _ h => h) rfl (fun W1 hW1 => rfl) (KpS.refl _ _ _) ?_
                    simp only [Act.put, List.setIfInBounds_toArray, List.set_cons_zero, List.set_cons_succ]
                    refine held_takeW (i := 17) (v := vb) rfl (by kernel_rfl) (by kernel_rfl) (by kernel_rfl) (fun _ _ _ h => h) rfl (fun W1 hW1 => rfl) (KpS.refl _ _ _) ?_
                    simp only [Act.put, List.setIfInBounds_toArray, List.set_cons_zero, List.set_cons_succ]
                    refine held_takeW (i := 18) (v := .slice (some ⟨gw, 0, none⟩) 5 5) rfl (by kernel_rfl) (by kernel_rfl) (by kernel_rfl) (fun _ _ _ h => h) rfl (fun W1 hW1 => rfl) (KpS.refl _ _ _) ?_
                    simp only [Act.put, List.setIfInBounds_toArray, List.set_cons_zero, List.set_cons_succ]
                    refine held_takeW (i := 19) (v := .int .i64 m) rfl (by kernel_rfl) (by kernel_rfl) (by kernel_rfl) (fun _ _ _ h => h) rfl (fun W1 hW1 => rfl) (KpS.refl _ _ _) ?_
                    simp only [Act.put, List.setIfInBounds_toArray, List.set_cons_zero, List.set_cons_succ]
                    refine held_takeW (i := 20) (v := .pointer (some ⟨gw, m, none⟩)) rfl (by kernel_rfl) (by kernel_rfl) (by kernel_rfl) (fun _ _ _ h => h) rfl (fun W1 hW1 => by go_simp) (KpS.refl _ _ _) ?_
                    simp only [Act.put, List.setIfInBounds_toArray, List.set_cons_zero, List.set_cons_succ]
                    refine held_takeW (i := 21) (v := .slice sa sn sc2) rfl (by kernel_rfl) (by kernel_rfl) (by kernel_rfl) (fun _ _ _ h => h) rfl (fun W1 hW1 => exec_load _ _ _ _ rfl rfl (run_loadCell W1 _ _ _ (cW W1 hW1) (agg_no _ (by kernel_rfl)))) (KpS.refl _ _ _) ?_
                    simp only [Act.put, List.setIfInBounds_toArray, List.set_cons_zero, List.set_cons_succ]
                    refine held_doW (i := 22) (by kernel_rfl) rfl rfl (wp_enter (f := 16) (args := #[vb, .slice sa sn sc2]) (by go_simp) (same_true w8.drew vb _ (want2 m) (RB.out.keep kd (by intro _ _ _ _ _; simp)) (RWH.out.keep kd (by intro _ _ _ _ _; simp)) hwl) ?_)
                    rintro e w9 ⟨rfl, k9⟩
                    have s9 : KpS [] w8.heap.size w8.drew w9 := (KpS.refl _ _ _).keeps k9 (Nat.le_refl _) (by simp)
                    refine ⟨_, rfl, s9, ?_⟩
                    simp only [Act.put, List.setIfInBounds_toArray, List.set_cons_zero, List.set_cons_succ]
                    refine held_takeW (i := 23) (v := .bool false) rfl (by kernel_rfl) (by kernel_rfl) (by kernel_rfl) (fun _ _ _ h => h) rfl (fun W1 hW1 => by go_simp) (s9) ?_
                    simp only [Act.put, List.setIfInBounds_toArray, List.set_cons_zero, List.set_cons_succ]
                    refine held_takeW (i := 24) (v := .bool false) rfl (by kernel_rfl) (by kernel_rfl) (by kernel_rfl) (fun _ _ _ h => h) rfl (fun W1 hW1 => by go_simp) (s9) ?_
                    simp only [Act.put, List.setIfInBounds_toArray, List.set_cons_zero, List.set_cons_succ]
                    refine held_takeW (i := 25) (v := .bool false) rfl (by kernel_rfl) (by kernel_rfl) (by kernel_rfl) (fun _ _ _ h => h) rfl (fun W1 hW1 => by go_simp) (s9) ?_
                    simp only [Act.put, List.setIfInBounds_toArray, List.set_cons_zero, List.set_cons_succ]
                    refine held_take (i := 26) (v := .bool false) rfl (by kernel_rfl) (by kernel_rfl) (by kernel_rfl) (fun _ _ _ h => h) rfl (fun W1 hW1 => by go_simp) (s9) ?_
                    simp only [Act.put, List.setIfInBounds_toArray, List.set_cons_zero, List.set_cons_succ]
                    refine wpAnyH_done (by kernel_rfl) ?_ _
                    have K9 := hid (K8.out.trans (kd.trans k9))
                    clear cU cW s9 sA k9 us2 kd
                    go_wp2_with fail
                    go_roundw
                    case rel => exact ⟨m + 1, by omega, by go_num, K9.out⟩
                    case measure => simp [intOf]; omega
                · have HU : Hid (hs2[m].used = false) := hid (by simpa using hu)
                  clear hu
                  have ht : takeE hs2 m = 6 := by
                    unfold takeE
                    rw [show hasS hs2 m = true by simp [hasS, hm52], usedS, headS_at hm52, HU.out]; rfl
                  have gn := lGet_no wr q2 pd g2 1 hs2 T7.out.sl m (by rw [ht]; decide)
                  rw [ht] at gn
                  have GN := hid gn
                  clear gn ht
                  go_wp2_with fail
                  refine GN.out.mono ?_
                  rintro e w8 ⟨rfl, k8⟩
                  have K8 := hid (KZ.out.trans k8)
                  have T8 := hid (T7.out.keep k8 (by simp) (by simp) (by simp))
                  have A8 := hid (A6.out.keep K8.out)
                  clear k8 GN
                  by_cases hx : (m : Int) = xi
                  · have tx : ((m : Int) == xi) = true := by simpa using hx
                    have HX := hid hx
                    clear hx
                    go_wp2_with fail
                    go_roundw
                    case rel => exact ⟨m + 1, by omega, by go_num, K8.out⟩
                    case measure => simp [intOf]; omega
                  · have tx : ((m : Int) == xi) = false := by simpa using hx
                    have hue := HFH.out m hm52
                    rw [if_neg hx, HU.out] at hue
                    have HUE := hid hue
                    have HSL := hid hsl
                    clear hue hx hsl
                    go_wp2_with fail
                    refine wp_region_any (by kernel_rfl) (wpAny_of_held (S := KpS [] w8.heap.size w8.drew) _ _ _ _ ?_)
                    change wpAnyH _ _ _ _ _ _ _ _ w8.drew
                    have cU : ∀ W1, KpS [] w8.heap.size w8.drew W1 → W1.cell? ⟨gu, m, none⟩ = some (.bool false) := fun W1 h => h.cell (by rw [World.cell?_drew]; have := A8.out.cu m hm5; rw [← HUE.out.1] at this; exact this) (lt_of_block A8.out.u5) (by simp)
                    refine held_take (i := 0) (v := .pointer (some ⟨q2, 0, none⟩)) rfl (by kernel_rfl) (by kernel_rfl) (by kernel_rfl) (fun _ _ _ h => h) rfl (fun W1 hW1 => rfl) (KpS.refl _ _ _) ?_
                    simp only [Act.put, List.setIfInBounds_toArray, List.set_cons_zero, List.set_cons_succ]
                    refine held_take (i := 1) (v := .int .i64 m) rfl (by kernel_rfl) (by kernel_rfl) (by kernel_rfl) (fun _ _ _ h => h) rfl (fun W1 hW1 => rfl) (KpS.refl _ _ _) ?_
                    simp only [Act.put, List.setIfInBounds_toArray, List.set_cons_zero, List.set_cons_succ]
                    refine held_take (i := 3) (v := .slice (some ⟨gu, 0, none⟩) 5 5) rfl (by kernel_rfl) (by kernel_rfl) (by kernel_rfl) (fun _ _ _ h => h) rfl (fun W1 hW1 => rfl) (KpS.refl _ _ _) ?_
                    simp only [Act.put, List.setIfInBounds_toArray, List.set_cons_zero, List.set_cons_succ]
                    refine held_take (i := 4) (v := .int .i64 m) rfl (by kernel_rfl) (by kernel_rfl) (by kernel_rfl) (fun _ _ _ h => h) rfl (fun W1 hW1 => rfl) (KpS.refl _ _ _) ?_
                    simp only [Act.put, List.setIfInBounds_toArray, List.set_cons_zero, List.set_cons_succ]
                    refine held_take (i := 5) (v := .pointer (some ⟨gu, m, none⟩)) rfl (by kernel_rfl) (by kernel_rfl) (by kernel_rfl) (fun _ _ _ h => h) rfl (fun W1 hW1 => by go_simp) (KpS.refl _ _ _) ?_
                    simp only [Act.put, List.setIfInBounds_toArray, List.set_cons_zero, List.set_cons_succ]
                    refine held_take (i := 6) (v := .bool false) rfl (by kernel_rfl) (by kernel_rfl) (by kernel_rfl) (fun _ _ _ h => h) rfl (fun W1 hW1 => exec_load _ _ _ _ rfl rfl (run_loadCell W1 _ _ _ (cU W1 hW1) (agg_no _ (by kernel_rfl)))) (KpS.refl _ _ _) ?_
                    simp only [Act.put, List.setIfInBounds_toArray, List.set_cons_zero, List.set_cons_succ]
                    have kd : Keeps [] w8 w8.drew := (Keeps.refl [] w8).drew
                    have us2 := lUsed_any w8.drew q2 pd g2 1 hs2 (T8.out.sl.keep kd (by simp) (by simp)) m
                    rw [usedS, headS_at hm52, HU.out] at us2
                    refine held_do (i := 2) (by kernel_rfl) rfl rfl (wp_enter (f := 17) (args := #[.pointer (some ⟨q2, 0, none⟩), .int .i64 m]) (by go_simp) (us2) ?_)
                    rintro e wb ⟨rfl, rfl⟩
                    have sA : KpS [] w8.heap.size w8.drew w8.drew := KpS.refl _ _ _
                    refine ⟨_, rfl, sA, ?_⟩
                    simp only [Act.put, List.setIfInBounds_toArray, List.set_cons_zero, List.set_cons_succ]
                    refine held_take (i := 7) (v := .bool false) rfl (by kernel_rfl) (by kernel_rfl) (by kernel_rfl) (fun _ _ _ h => h) rfl (fun W1 hW1 => by go_simp) (KpS.refl _ _ _) ?_
                    simp only [Act.put, List.setIfInBounds_toArray, List.set_cons_zero, List.set_cons_succ]
                    refine held_take (i := 8) (v := .bool false) rfl (by kernel_rfl) (by kernel_rfl) (by kernel_rfl) (fun _ _ _ h => h) rfl (fun W1 hW1 => rfl) (KpS.refl _ _ _) ?_
                    simp only [Act.put, List.setIfInBounds_toArray, List.set_cons_zero, List.set_cons_succ]
                    refine held_takeW (i := 9) (v := .slice (some ⟨gu, 0, none⟩) 5 5) rfl (by kernel_rfl) (by kernel_rfl) (by kernel_rfl) (fun _ _ _ h => h) rfl (fun W1 hW1 => rfl) (KpS.refl _ _ _) ?_
                    simp only [Act.put, List.setIfInBounds_toArray, List.set_cons_zero, List.set_cons_succ]
                    refine held_takeW (i := 10) (v := .int .i64 m) rfl (by kernel_rfl) (by kernel_rfl) (by kernel_rfl) (fun _ _ _ h => h) rfl (fun W1 hW1 => rfl) (KpS.refl _ _ _) ?_
                    simp only [Act.put, List.setIfInBounds_toArray, List.set_cons_zero, List.set_cons_succ]
                    refine held_takeW (i := 11) (v := .pointer (some ⟨gu, m, none⟩)) rfl (by kernel_rfl) (by kernel_rfl) (by kernel_rfl) (fun _ _ _ h => h) rfl (fun W1 hW1 => by go_simp) (KpS.refl _ _ _) ?_
                    simp only [Act.put, List.setIfInBounds_toArray, List.set_cons_zero, List.set_cons_succ]
                    refine held_takeW (i := 12) (v := .bool false) rfl (by kernel_rfl) (by kernel_rfl) (by kernel_rfl) (fun _ _ _ h => h) rfl (fun W1 hW1 => exec_load _ _ _ _ rfl rfl (run_loadCell W1 _ _ _ (cU W1 hW1) (agg_no _ (by kernel_rfl)))) (KpS.refl _ _ _) ?_
                    simp only [Act.put, List.setIfInBounds_toArray, List.set_cons_zero, List.set_cons_succ]
                    refine held_takeW (i := 13) (v := .bool false) rfl (by kernel_rfl) (by kernel_rfl) (by kernel_rfl) (fun _ _ _ h => h) rfl (fun W1 hW1 => rfl) (KpS.refl _ _ _) ?_
                    simp only [Act.put, List.setIfInBounds_toArray, List.set_cons_zero, List.set_cons_succ]
                    refine held_skip (i := 14) rfl (by kernel_rfl) (by kernel_rfl) (by kernel_rfl) (fun _ _ _ h => h) rfl (KpS.refl _ _ _) ?_
                    simp only [Act.put, List.setIfInBounds_toArray, List.set_cons_zero, List.set_cons_succ]
                    refine held_skip (i := 15) rfl (by kernel_rfl) (by kernel_rfl) (by kernel_rfl) (fun _ _ _ h => h) rfl (KpS.refl _ _ _) ?_
                    simp only [Act.put, List.setIfInBounds_toArray, List.set_cons_zero, List.set_cons_succ]
                    refine held_skip (i := 16) rfl (by kernel_rfl) (by kernel_rfl) (by kernel_rfl) (fun _ _ _ h => h) rfl (KpS.refl _ _ _) ?_
                    simp only [Act.put, List.setIfInBounds_toArray, List.set_cons_zero, List.set_cons_succ]
                    refine held_skip (i := 17) rfl (by kernel_rfl) (by kernel_rfl) (by kernel_rfl) (fun _ _ _ h => h) rfl (KpS.refl _ _ _) ?_
                    simp only [Act.put, List.setIfInBounds_toArray, List.set_cons_zero, List.set_cons_succ]
                    refine held_skip (i := 18) rfl (by kernel_rfl) (by kernel_rfl) (by kernel_rfl) (fun _ _ _ h => h) rfl (KpS.refl _ _ _) ?_
                    simp only [Act.put, List.setIfInBounds_toArray, List.set_cons_zero, List.set_cons_succ]
                    refine held_skip (i := 19) rfl (by kernel_rfl) (by kernel_rfl) (by kernel_rfl) (fun _ _ _ h => h) rfl (KpS.refl _ _ _) ?_
                    simp only [Act.put, List.setIfInBounds_toArray, List.set_cons_zero, List.set_cons_succ]
                    refine held_skip (i := 20) rfl (by kernel_rfl) (by kernel_rfl) (by kernel_rfl) (fun _ _ _ h => h) rfl (KpS.refl _ _ _) ?_
                    simp only [Act.put, List.setIfInBounds_toArray, List.set_cons_zero, List.set_cons_succ]
                    refine held_skip (i := 21) rfl (by kernel_rfl) (by kernel_rfl) (by kernel_rfl) (fun _ _ _ h => h) rfl (KpS.refl _ _ _) ?_
                    simp only [Act.put, List.setIfInBounds_toArray, List.set_cons_zero, List.set_cons_succ]
                    refine held_skip (i := 22) rfl (by kernel_rfl) (by kernel_rfl) (by kernel_rfl) (fun _ _ _ h => h) rfl (KpS.refl _ _ _) ?_
                    simp only [Act.put, List.setIfInBounds_toArray, List.set_cons_zero, List.set_cons_succ]
                    refine held_skip (i := 23) rfl (by kernel_rfl) (by kernel_rfl) (by kernel_rfl) (fun _ _ _ h => h) rfl (KpS.refl _ _ _) ?_
                    simp only [Act.put, List.setIfInBounds_toArray, List.set_cons_zero, List.set_cons_succ]
                    refine held_skip (i := 24) rfl (by kernel_rfl) (by kernel_rfl) (by kernel_rfl) (fun _ _ _ h => h) rfl (KpS.refl _ _ _) ?_
                    simp only [Act.put, List.setIfInBounds_toArray, List.set_cons_zero, List.set_cons_succ]
                    refine held_takeW (i := 25) (v := .bool false) rfl (by kernel_rfl) (by kernel_rfl) (by kernel_rfl) (fun _ _ _ h => h) rfl (fun W1 hW1 => by go_simp) (KpS.refl _ _ _) ?_
                    simp only [Act.put, List.setIfInBounds_toArray, List.set_cons_zero, List.set_cons_succ]
                    refine held_take (i := 26) (v := .bool false) rfl (by kernel_rfl) (by kernel_rfl) (by kernel_rfl) (fun _ _ _ h => h) rfl (fun W1 hW1 => by go_simp) (KpS.refl _ _ _) ?_
                    simp only [Act.put, List.setIfInBounds_toArray, List.set_cons_zero, List.set_cons_succ]
                    refine wpAnyH_done (by kernel_rfl) ?_ _
                    have K9 := hid (K8.out.trans kd)
                    clear cU sA us2 kd
                    generalize w8.drew = w9 at K9 ⊢
                    go_wp2_with fail
                    go_roundw
                    case rel => exact ⟨m + 1, by omega, by go_num, K9.out⟩
                    case measure => simp [intOf]; omega
              · have : m = 5 := by omega
                subst this
                have hm5' : ¬ ((5 : Nat) : Int) < ((5 : Nat) : Int) := by omega
                have KF := hid (K0.out.trans (A6.out.keep KZ.out).sl.kept)
                go_wp2_with fail
                go_ret
                exact ⟨rfl, KF.out⟩
        · obtain ⟨pl, FIN, PV⟩ : (∃ pl, Hid (Fin5 s us want xi pl) ∧ Hid (xi = -1 ∨ RowAt w0 (.slice pa pn pc) pl)) := by
            rcases hst with ⟨hdd, rfl, hry, hus⟩ | ⟨hdd, hpv, hfin⟩
            · exact ⟨[], hid (fin_live hry A.out.five hus _), hid (.inl rfl)⟩
            · exact ⟨pl, hid hfin, hid (.inr hpv)⟩
          clear hst
          go_wp2_with fail
          refine (crash_any wr p s F _ A.out.sl.at_.dk (by have := RM.out.1; omega) (.slice ca ch.length cc) ch (by omega) (CV0.out.keep A.out.sl.kept (by intro _ _ _ _ _; simp))).mono ?_
          rintro e w5 ⟨pd, F5, rfl, d5, n5, k5⟩
          obtain ⟨hs2, want2, RD, h52, HF⟩ := FIN.out ch
          have cnt5 : (s.crashed ch).cnt = 41 := A.out.cnt
          generalize s.crashed ch = sc at d5 RD cnt5
          have A5 := hid (A.out.keep k5)
          have hall : headsS sc 1 5 = hs2 := by have := RD.all; rw [h52] at this; exact this
          have OP := lOpen_good w5 pd sc F5 _ d5 1 5 (by omega) (by omega) RD.alive.1 (by have := RD.good; rw [h52] at this; exact this)
          rw [hall] at OP
          have OPH := hid OP
          have RDH := hid RD
          have HFH := hid HF
          have H52 := hid h52
          clear OP hall d5 n5 k5 RD HF h52 cnt5
          go_wp2_with fail
          refine OPH.out.mono ?_
          rintro e w6 ⟨q2, g2, rfl, t6, _, _, k6⟩
          have T6 := hid t6
          have A6 := hid (A5.out.keep k6)
          clear t6 k6 OPH A5
          go_wp2_with fail
          go_loopw [19] (fun i wr => ∃ m : Nat, m ≤ 5 ∧ i = .int .i64 m ∧ Keeps [] w6 wr) (fun i _ => 5 - (intOf i).toNat)
          case atStart => exact ⟨0, by omega, rfl, Keeps.refl _ _⟩
          case round =>
            obtain ⟨m, hm, rfl, kz⟩ := hrel
            have T7 := hid (T6.out.keep kz (by simp) (by simp) (by simp))
            have KZ := hid kz
            have lc := lCount_any wr q2 pd g2 1 hs2 T7.out.sl
            rw [H52.out] at lc
            have LC2 := hid lc
            clear lc kz
            go_wp2_with fail
            refine LC2.out.mono ?_
            rintro e _ ⟨rfl, rfl⟩
            clear LC2
            by_cases hm5 : m < 5
            · have hm5' : (m : Int) < ((5 : Nat) : Int) := by omega
              have hm52 : m < hs2.length := by rw [H52.out]; exact hm5
              have hal := RDH.out.alive.1
              have HAL := hid hal
              clear hal
              obtain ⟨sa, sn, sc2, hsl⟩ := A6.out.sli m hm5
              by_cases hu : hs2[m].used = true
              · have HU := hid hu
                clear hu
                have hgb : getB sc (1 + m * 8) hs2[m].held = want2 m := RDH.out.holds m hm52 HU.out
                have hwl : (want2 m).length ≤ 1000000 := by rw [← hgb]; unfold getB; rw [List.length_take, imageL_len]; omega
                go_wp2_with fail
                refine (callsIn_wide.1 (get_in 9 (by omega) wr q2 pd g2 1 hs2 sc F5 _ T7.out m (1 + m * 8) rfl hm52 HU.out HAL.out)).mono ?_
                rintro e w8 ⟨vb, rfl, rb, nb, k8⟩
                rw [hgb] at rb
                have RB := hid rb
                have K8 := hid (KZ.out.trans k8)
                have T8 := hid (T7.out.keep k8 (by simp) (by simp) (by simp))
                have A8 := hid (A6.out.keep K8.out)
                clear rb nb k8 hgb
                by_cases hx : (m : Int) = xi
                · have hpl : want2 m = pl := by have := HFH.out m hm52; rw [if_pos hx] at this; exact this HU.out
                  have hpr : RowAt w0 (.slice pa pn pc) pl := by
                    rcases PV.out with h | h
                    · omega
                    · exact h
                  have PR := hid (hpr.keep A8.out.sl.kept (by intro _ _ _ _ _; simp))
                  rw [← hpl] at PR
                  have tx : ((m : Int) == xi) = true := by simpa using hx
                  have HX := hid hx
                  have HPL := hid hpl
                  clear hx hpl hpr
                  go_wp2_with fail
                  refine (same_true w8 vb _ (want2 m) RB.out PR.out hwl).mono ?_
                  rintro e w9 ⟨rfl, k9⟩
                  have K9 := hid (K8.out.trans k9)
                  clear k9
                  go_wp2_with fail
                  go_roundw
                  case rel => exact ⟨m + 1, by omega, by go_num, K9.out⟩
                  case measure => simp [intOf]; omega
                · have tx : ((m : Int) == xi) = false := by simpa using hx
                  have hue := HFH.out m hm52
                  rw [if_neg hx, HU.out] at hue
                  have hwe := hue.2 hue.1.symm
                  have RW := ROW.out m hm5 hue.1.symm
                  rw [← hwe, hsl] at RW
                  have RWH := hid (RW.keep A8.out.sl.kept (by intro _ _ _ _ _; simp))
                  have HUE := hid hue
                  have HSL := hid hsl
                  clear hue hwe RW hx hsl
                  go_wp2_with fail
                  refine wp_region_any (by kernel_rfl) (wpAny_of_held (S := KpS [] w8.heap.size w8.drew) _ _ _ _ ?_)
                  change wpAnyH _ _ _ _ _ _ _ _ w8.drew
                  have cU : ∀ W1, KpS [] w8.heap.size w8.drew W1 → W1.cell? ⟨gu, m, none⟩ = some (.bool true) := fun W1 h => h.cell (by rw [World.cell?_drew]; have := A8.out.cu m hm5; rw [← HUE.out.1] at this; exact this) (lt_of_block A8.out.u5) (by simp)
                  have cW : ∀ W1, KpS [] w8.heap.size w8.drew W1 → W1.cell? ⟨gw, m, none⟩ = some (.slice sa sn sc2) := fun W1 h => h.cell (by rw [World.cell?_drew]; have := A8.out.cw m hm5; rw [HSL.out] at this; exact this) (lt_of_block A8.out.w5) (by simp)
                  refine held_take (i := 0) (v := .pointer (some ⟨q2, 0, none⟩)) rfl (by kernel_rfl) (by kernel_rfl) (by kernel_rfl) (fun _ _ _ h => h) rfl (fun W1 hW1 => rfl) (KpS.refl _ _ _) ?_
                  simp only [Act.put, List.setIfInBounds_toArray, List.set_cons_zero, List.set_cons_succ]
                  refine held_take (i := 1) (v := .int .i64 m) rfl (by kernel_rfl) (by kernel_rfl) (by kernel_rfl) (fun _ _ _ h => h) rfl (fun W1 hW1 => rfl) (KpS.refl _ _ _) ?_
                  simp only [Act.put, List.setIfInBounds_toArray, List.set_cons_zero, List.set_cons_succ]
                  refine held_take (i := 3) (v := .slice (some ⟨gu, 0, none⟩) 5 5) rfl (by kernel_rfl) (by kernel_rfl) (by kernel_rfl) (fun _ _ _ h => h) rfl (fun W1 hW1 => rfl) (KpS.refl _ _ _) ?_
                  simp only [Act.put, List.setIfInBounds_toArray, List.set_cons_zero, List.set_cons_succ]
                  refine held_take (i := 4) (v := .int .i64 m) rfl (by kernel_rfl) (by kernel_rfl) (by kernel_rfl) (fun _ _ _ h => h) rfl (fun W1 hW1 => rfl) (KpS.refl _ _ _) ?_
                  simp only [Act.put, List.setIfInBounds_toArray, List.set_cons_zero, List.set_cons_succ]
                  refine held_take (i := 5) (v := .pointer (some ⟨gu, m, none⟩)) rfl (by kernel_rfl) (by kernel_rfl) (by kernel_rfl) (fun _ _ _ h => h) rfl (fun W1 hW1 => by go_simp) (KpS.refl _ _ _) ?_
                  simp only [Act.put, List.setIfInBounds_toArray, List.set_cons_zero, List.set_cons_succ]
                  refine held_take (i := 6) (v := .bool true) rfl (by kernel_rfl) (by kernel_rfl) (by kernel_rfl) (fun _ _ _ h => h) rfl (fun W1 hW1 => exec_load _ _ _ _ rfl rfl (run_loadCell W1 _ _ _ (cU W1 hW1) (agg_no _ (by kernel_rfl)))) (KpS.refl _ _ _) ?_
                  simp only [Act.put, List.setIfInBounds_toArray, List.set_cons_zero, List.set_cons_succ]
                  have kd : Keeps [] w8 w8.drew := (Keeps.refl [] w8).drew
                  have us2 := lUsed_any w8.drew q2 pd g2 1 hs2 (T8.out.sl.keep kd (by simp) (by simp)) m
                  rw [usedS, headS_at hm52, HU.out] at us2
                  refine held_do (i := 2) (by kernel_rfl) rfl rfl (wp_enter (f := 17) (args := #[.pointer (some ⟨q2, 0, none⟩), .int .i64 m]) (by go_simp) (us2) ?_)
                  rintro e wb ⟨rfl, rfl⟩
                  have sA : KpS [] w8.heap.size w8.drew w8.drew := KpS.refl _ _ _
                  refine ⟨_, rfl, sA, ?_⟩
                  simp only [Act.put, List.setIfInBounds_toArray, List.set_cons_zero, List.set_cons_succ]
                  refine held_take (i := 7) (v := .bool false) rfl (by kernel_rfl) (by kernel_rfl) (by kernel_rfl) (fun _ _ _ h => h) rfl (fun W1 hW1 => by go_simp) (KpS.refl _ _ _) ?_
                  simp only [Act.put, List.setIfInBounds_toArray, List.set_cons_zero, List.set_cons_succ]
                  refine held_take (i := 8) (v := .bool false) rfl (by kernel_rfl) (by kernel_rfl) (by kernel_rfl) (fun _ _ _ h => h) rfl (fun W1 hW1 => rfl) (KpS.refl _ _ _) ?_
                  simp only [Act.put, List.setIfInBounds_toArray, List.set_cons_zero, List.set_cons_succ]
                  refine held_takeW (i := 9) (v := .slice (some ⟨gu, 0, none⟩) 5 5) rfl (by kernel_rfl) (by kernel_rfl) (by kernel_rfl) (fun _ _ _ h => h) rfl (fun W1 hW1 => rfl) (KpS.refl _ _ _) ?_
                  simp only [Act.put, List.setIfInBounds_toArray, List.set_cons_zero, List.set_cons_succ]
                  refine held_takeW (i := 10) (v := .int .i64 m) rfl (by kernel_rfl) (by kernel_rfl) (by kernel_rfl) (fun _ _ _ h => h) rfl (fun W1 hW1 => rfl) (KpS.refl _ _ _) ?_
                  simp only [Act.put, List.setIfInBounds_toArray, List.set_cons_zero, List.set_cons_succ]
                  refine held_takeW (i := 11) (v := .pointer (some ⟨gu, m, none⟩)) rfl (by kernel_rfl) (by kernel_rfl) (by kernel_rfl) (fun _ _ _ h => h) rfl (fun W1 hW1 => by go_simp) (KpS.refl _ _ _) ?_
                  simp only [Act.put, List.setIfInBounds_toArray, List.set_cons_zero, List.set_cons_succ]
                  refine held_takeW (i := 12) (v := .bool true) rfl (by kernel_rfl) (by kernel_rfl) (by kernel_rfl) (fun _ _ _ h => h) rfl (fun W1 hW1 => exec_load _ _ _ _ rfl rfl (run_loadCell W1 _ _ _ (cU W1 hW1) (agg_no _ (by kernel_rfl)))) (KpS.refl _ _ _) ?_
                  simp only [Act.put, List.setIfInBounds_toArray, List.set_cons_zero, List.set_cons_succ]
                  refine held_takeW (i := 13) (v := .bool true) rfl (by kernel_rfl) (by kernel_rfl) (by kernel_rfl) (fun _ _ _ h => h) rfl (fun W1 hW1 => rfl) (KpS.refl _ _ _) ?_
                  simp only [Act.put, List.setIfInBounds_toArray, List.set_cons_zero, List.set_cons_succ]
                  refine held_takeW (i := 14) (v := .int .i64 0) rfl (by kernel_rfl) (by kernel_rfl) (by kernel_rfl) (fun _ _ _ h => h) rfl (fun W1 hW1 => rfl) (KpS.refl _ _ _) ?_
                  simp only [Act.put, List.setIfInBounds_toArray, List.set_cons_zero, List.set_cons_succ]
                  refine held_takeW (i := 15) (v := .bool false) rfl (by kernel_rfl) (by kernel_rfl) (by kernel_rfl) (fun _ _ _ h => h) rfl (fun W1 hW1 => by go_simp) (KpS.refl _ _ _) ?_
                  simp only [Act.put, List.setIfInBounds_toArray, List.set_cons_zero, List.set_cons_succ]
                  refine held_takeW (i := 16) (v := .bool false) rfl (by kernel_rfl) (by kernel_rfl) (by kernel_rfl) (fun _ _ _ h => h) rfl (fun W1 hW1 => rfl) (KpS.refl _ _ _) ?_
                  simp only [Act.put, List.setIfInBounds_toArray, List.set_cons_zero, List.set_cons_succ]
                  refine held_takeW (i := 17) (v := vb) rfl (by kernel_rfl) (by kernel_rfl) (by kernel_rfl) (fun _ _ _ h => h) rfl (fun W1 hW1 => rfl) (KpS.refl _ _ _) ?_
                  simp only [Act.put, List.setIfInBounds_toArray, List.set_cons_zero, List.set_cons_succ]
                  refine held_takeW (i := 18) (v := .slice (some ⟨gw, 0, none⟩) 5 5) rfl (by kernel_rfl) (by kernel_rfl) (by kernel_rfl) (fun _ _ _ h => h) rfl (fun W1 hW1 => rfl) (KpS.refl _ _ _) ?_
                  simp only [Act.put, List.setIfInBounds_toArray, List.set_cons_zero, List.set_cons_succ]
                  refine held_takeW (i := 19) (v := .int .i64 m) rfl (by kernel_rfl) (by kernel_rfl) (by kernel_rfl) (fun _ _ _ h => h) rfl (fun W1 hW1 => rfl) (KpS.refl _ _ _) ?_
                  simp only [Act.put, List.setIfInBounds_toArray, List.set_cons_zero, List.set_cons_succ]
                  refine held_takeW (i := 20) (v := .pointer (some ⟨gw, m, none⟩)) rfl (by kernel_rfl) (by kernel_rfl) (by kernel_rfl) (fun _ _ _ h => h) rfl (fun W1 hW1 => by go_simp) (KpS.refl _ _ _) ?_
                  simp only [Act.put, List.setIfInBounds_toArray, List.set_cons_zero, List.set_cons_succ]
                  refine held_takeW (i := 21) (v := .slice sa sn sc2) rfl (by kernel_rfl) (by kernel_rfl) (by kernel_rfl) (fun _ _ _ h => h) rfl (fun W1 hW1 => exec_load _ _ _ _ rfl rfl (run_loadCell W1 _ _ _ (cW W1 hW1) (agg_no _ (by kernel_rfl)))) (KpS.refl _ _ _) ?_
                  simp only [Act.put, List.setIfInBounds_toArray, List.set_cons_zero, List.set_cons_succ]
                  refine held_doW (i := 22) (by kernel_rfl) rfl rfl (wp_enter (f := 16) (args := #[vb, .slice sa sn sc2]) (by go_simp) (same_true w8.drew vb _ (want2 m) (RB.out.keep kd (by intro _ _ _ _ _; simp)) (RWH.out.keep kd (by intro _ _ _ _ _; simp)) hwl) ?_)
                  rintro e w9 ⟨rfl, k9⟩
                  have s9 : KpS [] w8.heap.size w8.drew w9 := (KpS.refl _ _ _).keeps k9 (Nat.le_refl _) (by simp)
                  refine ⟨_, rfl, s9, ?_⟩
                  simp only [Act.put, List.setIfInBounds_toArray, List.set_cons_zero, List.set_cons_succ]
                  refine held_takeW (i := 23) (v := .bool false) rfl (by kernel_rfl) (by kernel_rfl) (by kernel_rfl) (fun _ _ _ h => h) rfl (fun W1 hW1 => by go_simp) (s9) ?_
                  simp only [Act.put, List.setIfInBounds_toArray, List.set_cons_zero, List.set_cons_succ]
                  refine held_takeW (i := 24) (v := .bool false) rfl (by kernel_rfl) (by kernel_rfl) (by kernel_rfl) (fun _ _ _ h => h) rfl (fun W1 hW1 => by go_simp) (s9) ?_
                  simp only [Act.put, List.setIfInBounds_toArray, List.set_cons_zero, List.set_cons_succ]
                  refine held_takeW (i := 25) (v := .bool false) rfl (by kernel_rfl) (by kernel_rfl) (by kernel_rfl) (fun _ _ _ h => h) rfl (fun W1 hW1 => by go_simp) (s9) ?_
                  simp only [Act.put, List.setIfInBounds_toArray, List.set_cons_zero, List.set_cons_succ]
                  refine held_take (i := 26) (v := .bool false) rfl (by kernel_rfl) (by kernel_rfl) (by kernel_rfl) (fun _ _ _ h => h) rfl (fun W1 hW1 => by go_simp) (s9) ?_
                  simp only [Act.put, List.setIfInBounds_toArray, List.set_cons_zero, List.set_cons_succ]
                  refine wpAnyH_done (by kernel_rfl) ?_ _
                  have K9 := hid (K8.out.trans (kd.trans k9))
                  clear cU cW s9 sA k9 us2 kd
                  go_wp2_with fail
                  go_roundw
                  case rel => exact ⟨m + 1, by omega, by go_num, K9.out⟩
                  case measure => simp [intOf]; omega
              · have HU : Hid (hs2[m].used = false) := hid (by simpa using hu)
                clear hu
                have ht : takeE hs2 m = 6 := by
                  unfold takeE
                  rw [show hasS hs2 m = true by simp [hasS, hm52], usedS, headS_at hm52, HU.out]; rfl
                have gn := lGet_no wr q2 pd g2 1 hs2 T7.out.sl m (by rw [ht]; decide)
                rw [ht] at gn
                have GN := hid gn
                clear gn ht
                go_wp2_with fail
                refine GN.out.mono ?_
                rintro e w8 ⟨rfl, k8⟩
                have K8 := hid (KZ.out.trans k8)
                have T8 := hid (T7.out.keep k8 (by simp) (by simp) (by simp))
                have A8 := hid (A6.out.keep K8.out)
                clear k8 GN
                by_cases hx : (m : Int) = xi
                · have tx : ((m : Int) == xi) = true := by simpa using hx
                  have HX := hid hx
                  clear hx
                  go_wp2_with fail
                  go_roundw
                  case rel => exact ⟨m + 1, by omega, by go_num, K8.out⟩
                  case measure => simp [intOf]; omega
                · have tx : ((m : Int) == xi) = false := by simpa using hx
                  have hue := HFH.out m hm52
                  rw [if_neg hx, HU.out] at hue
                  have HUE := hid hue
                  have HSL := hid hsl
                  clear hue hx hsl
                  go_wp2_with fail
                  refine wp_region_any (by kernel_rfl) (wpAny_of_held (S := KpS [] w8.heap.size w8.drew) _ _ _ _ ?_)
                  change wpAnyH _ _ _ _ _ _ _ _ w8.drew
                  have cU : ∀ W1, KpS [] w8.heap.size w8.drew W1 → W1.cell? ⟨gu, m, none⟩ = some (.bool false) := fun W1 h => h.cell (by rw [World.cell?_drew]; have := A8.out.cu m hm5; rw [← HUE.out.1] at this; exact this) (lt_of_block A8.out.u5) (by simp)
                  refine held_take (i := 0) (v := .pointer (some ⟨q2, 0, none⟩)) rfl (by kernel_rfl) (by kernel_rfl) (by kernel_rfl) (fun _ _ _ h => h) rfl (fun W1 hW1 => rfl) (KpS.refl _ _ _) ?_
                  simp only [Act.put, List.setIfInBounds_toArray, List.set_cons_zero, List.set_cons_succ]
                  refine held_take (i := 1) (v := .int .i64 m) rfl (by kernel_rfl) (by kernel_rfl) (by kernel_rfl) (fun _ _ _ h => h) rfl (fun W1 hW1 => rfl) (KpS.refl _ _ _) ?_
                  simp only [Act.put, List.setIfInBounds_toArray, List.set_cons_zero, List.set_cons_succ]
                  refine held_take (i := 3) (v := .slice (some ⟨gu, 0, none⟩) 5 5) rfl (by kernel_rfl) (by kernel_rfl) (by kernel_rfl) (fun _ _ _ h => h) rfl (fun W1 hW1 => rfl) (KpS.refl _ _ _) ?_
                  simp only [Act.put, List.setIfInBounds_toArray, List.set_cons_zero, List.set_cons_succ]
                  refine held_take (i := 4) (v := .int .i64 m) rfl (by kernel_rfl) (by kernel_rfl) (by kernel_rfl) (fun _ _ _ h => h) rfl (fun W1 hW1 => rfl) (KpS.refl _ _ _) ?_
                  simp only [Act.put, List.setIfInBounds_toArray, List.set_cons_zero, List.set_cons_succ]
                  refine held_take (i := 5) (v := .pointer (some ⟨gu, m, none⟩)) rfl (by kernel_rfl) (by kernel_rfl) (by kernel_rfl) (fun _ _ _ h => h) rfl (fun W1 hW1 => by go_simp) (KpS.refl _ _ _) ?_
                  simp only [Act.put, List.setIfInBounds_toArray, List.set_cons_zero, List.set_cons_succ]
                  refine held_take (i := 6) (v := .bool false) rfl (by kernel_rfl) (by kernel_rfl) (by kernel_rfl) (fun _ _ _ h => h) rfl (fun W1 hW1 => exec_load _ _ _ _ rfl rfl (run_loadCell W1 _ _ _ (cU W1 hW1) (agg_no _ (by kernel_rfl)))) (KpS.refl _ _ _) ?_
                  simp only [Act.put, List.setIfInBounds_toArray, List.set_cons_zero, List.set_cons_succ]
                  have kd : Keeps [] w8 w8.drew := (Keeps.refl [] w8).drew
                  have us2 := lUsed_any w8.drew q2 pd g2 1 hs2 (T8.out.sl.keep kd (by simp) (by simp)) m
                  rw [usedS, headS_at hm52, HU.out] at us2
                  refine held_do (i := 2) (by kernel_rfl) rfl rfl (wp_enter (f := 17) (args := #[.pointer (some ⟨q2, 0, none⟩), .int .i64 m]) (by go_simp) (us2) ?_)
                  rintro e wb ⟨rfl, rfl⟩
                  have sA : KpS [] w8.heap.size w8.drew w8.drew := KpS.refl _ _ _
                  refine ⟨_, rfl, sA, ?_⟩
                  simp only [Act.put, List.setIfInBounds_toArray, List.set_cons_zero, List.set_cons_succ]
                  refine held_take (i := 7) (v := .bool false) rfl (by kernel_rfl) (by kernel_rfl) (by kernel_rfl) (fun _ _ _ h => h) rfl (fun W1 hW1 => by go_simp) (KpS.refl _ _ _) ?_
                  simp only [Act.put, List.setIfInBounds_toArray, List.set_cons_zero, List.set_cons_succ]
                  refine held_take (i := 8) (v := .bool false) rfl (by kernel_rfl) (by kernel_rfl) (by kernel_rfl) (fun _ _ _ h => h) rfl (fun W1 hW1 => rfl) (KpS.refl _ _ _) ?_
                  simp only [Act.put, List.setIfInBounds_toArray, List.set_cons_zero, List.set_cons_succ]
                  refine held_takeW (i := 9) (v := .slice (some ⟨gu, 0, none⟩) 5 5) rfl (by kernel_rfl) (by kernel_rfl) (by kernel_rfl) (fun _ _ _ h => h) rfl (fun W1 hW1 => rfl) (KpS.refl _ _ _) ?_
                  simp only [Act.put, List.setIfInBounds_toArray, List.set_cons_zero, List.set_cons_succ]
                  refine held_takeW (i := 10) (v := .int .i64 m) rfl (by kernel_rfl) (by kernel_rfl) (by kernel_rfl) (fun _ _ _ h => h) rfl (fun W1 hW1 => rfl) (KpS.refl _ _ _) ?_
                  simp only [Act.put, List.setIfInBounds_toArray, List.set_cons_zero, List.set_cons_succ]
                  refine held_takeW (i := 11) (v := .pointer (some ⟨gu, m, none⟩)) rfl (by kernel_rfl) (by kernel_rfl) (by kernel_rfl) (fun _ _ _ h => h) rfl (fun W1 hW1 => by go_simp) (KpS.refl _ _ _) ?_
                  simp only [Act.put, List.setIfInBounds_toArray, List.set_cons_zero, List.set_cons_succ]
                  refine held_takeW (i := 12) (v := .bool false) rfl (by kernel_rfl) (by kernel_rfl) (by kernel_rfl) (fun _ _ _ h => h) rfl (fun W1 hW1 => exec_load _ _ _ _ rfl rfl (run_loadCell W1 _ _ _ (cU W1 hW1) (agg_no _ (by kernel_rfl)))) (KpS.refl _ _ _) ?_
                  simp only [Act.put, List.setIfInBounds_toArray, List.set_cons_zero, List.set_cons_succ]
                  refine held_takeW (i := 13) (v := .bool false) rfl (by kernel_rfl) (by kernel_rfl) (by kernel_rfl) (fun _ _ _ h => h) rfl (fun W1 hW1 => rfl) (KpS.refl _ _ _) ?_
                  simp only [Act.put, List.setIfInBounds_toArray, List.set_cons_zero, List.set_cons_succ]
                  refine held_skip (i := 14) rfl (by kernel_rfl) (by kernel_rfl) (by kernel_rfl) (fun _ _ _ h => h) rfl (KpS.refl _ _ _) ?_
                  simp only [Act.put, List.setIfInBounds_toArray, List.set_cons_zero, List.set_cons_succ]
                  refine held_skip (i := 15) rfl (by kernel_rfl) (by kernel_rfl) (by kernel_rfl) (fun _ _ _ h => h) rfl (KpS.refl _ _ _) ?_
                  simp only [Act.put, List.setIfInBounds_toArray, List.set_cons_zero, List.set_cons_succ]
                  refine held_skip (i := 16) rfl (by kernel_rfl) (by kernel_rfl) (by kernel_rfl) (fun _ _ _ h => h) rfl (KpS.refl _ _ _) ?_
                  simp only [Act.put, List.setIfInBounds_toArray, List.set_cons_zero, List.set_cons_succ]
                  refine held_skip (i := 17) rfl (by kernel_rfl) (by kernel_rfl) (by kernel_rfl) (fun _ _ _ h => h) rfl (KpS.refl _ _ _) ?_
                  simp only [Act.put, List.setIfInBounds_toArray, List.set_cons_zero, List.set_cons_succ]
                  refine held_skip (i := 18) rfl (by kernel_rfl) (by kernel_rfl) (by kernel_rfl) (fun _ _ _ h => h) rfl (KpS.refl _ _ _) ?_
                  simp only [Act.put, List.setIfInBounds_toArray, List.set_cons_zero, List.set_cons_succ]
                  refine held_skip (i := 19) rfl (by kernel_rfl) (by kernel_rfl) (by kernel_rfl) (fun _ _ _ h => h) rfl (KpS.refl _ _ _) ?_
                  simp only [Act.put, List.setIfInBounds_toArray, List.set_cons_zero, List.set_cons_succ]
                  refine held_skip (i := 20) rfl (by kernel_rfl) (by kernel_rfl) (by kernel_rfl) (fun _ _ _ h => h) rfl (KpS.refl _ _ _) ?_
                  simp only [Act.put, List.setIfInBounds_toArray, List.set_cons_zero, List.set_cons_succ]
                  refine held_skip (i := 21) rfl (by kernel_rfl) (by kernel_rfl) (by kernel_rfl) (fun _ _ _ h => h) rfl (KpS.refl _ _ _) ?_
                  simp only [Act.put, List.setIfInBounds_toArray, List.set_cons_zero, List.set_cons_succ]
                  refine held_skip (i := 22) rfl (by kernel_rfl) (by kernel_rfl) (by kernel_rfl) (fun _ _ _ h => h) rfl (KpS.refl _ _ _) ?_
                  simp only [Act.put, List.setIfInBounds_toArray, List.set_cons_zero, List.set_cons_succ]
                  refine held_skip (i := 23) rfl (by kernel_rfl) (by kernel_rfl) (by kernel_rfl) (fun _ _ _ h => h) rfl (KpS.refl _ _ _) ?_
                  simp only [Act.put, List.setIfInBounds_toArray, List.set_cons_zero, List.set_cons_succ]
                  refine held_skip (i := 24) rfl (by kernel_rfl) (by kernel_rfl) (by kernel_rfl) (fun _ _ _ h => h) rfl (KpS.refl _ _ _) ?_
                  simp only [Act.put, List.setIfInBounds_toArray, List.set_cons_zero, List.set_cons_succ]
                  refine held_takeW (i := 25) (v := .bool false) rfl (by kernel_rfl) (by kernel_rfl) (by kernel_rfl) (fun _ _ _ h => h) rfl (fun W1 hW1 => by go_simp) (KpS.refl _ _ _) ?_
                  simp only [Act.put, List.setIfInBounds_toArray, List.set_cons_zero, List.set_cons_succ]
                  refine held_take (i := 26) (v := .bool false) rfl (by kernel_rfl) (by kernel_rfl) (by kernel_rfl) (fun _ _ _ h => h) rfl (fun W1 hW1 => by go_simp) (KpS.refl _ _ _) ?_
                  simp only [Act.put, List.setIfInBounds_toArray, List.set_cons_zero, List.set_cons_succ]
                  refine wpAnyH_done (by kernel_rfl) ?_ _
                  have K9 := hid (K8.out.trans kd)
                  clear cU sA us2 kd
                  generalize w8.drew = w9 at K9 ⊢
                  go_wp2_with fail
                  go_roundw
                  case rel => exact ⟨m + 1, by omega, by go_num, K9.out⟩
                  case measure => simp [intOf]; omega
            · have : m = 5 := by omega
              subst this
              have hm5' : ¬ ((5 : Nat) : Int) < ((5 : Nat) : Int) := by omega
              have KF := hid (K0.out.trans (A6.out.keep KZ.out).sl.kept)
              go_wp2_with fail
              go_ret
              exact ⟨rfl, KF.out⟩
end Go.Proofs.Ytnjlhplcagkcnaa

namespace Go.Proofs.Ytnjlhplcagkcnaa
open Go.ChangeShapes Go.WideShapes Go.ChangeAt Go.RowKit

set_option maxRecDepth 100000 in
theorem dies_lifted (os : Os) (started : os.Started) (H : Type) (enc : TypeId × Value → H) :
    ReturnsInHanded {} Try.checked os 3 .any (Rows.slotDiesSpec.pre6 enc Try.prog Try.f3 Rows.slotDiesRow.domain false) (Rows.slotDiesSpec.post enc Try.prog Try.f3 false true false false) := by
  refine returnsInHanded_of_change_sized (C := Try.checked) own started (by kernel_rfl) Try.func3
    (ChangeSpec.witness6 (enc := enc) (C := Try.checked) false ⟨#[], #[.slice none 0 0, .int .u8 0, .slice none 0 0], []⟩ 8 (by kernel_rfl) (by kernel_rfl) (by kernel_rfl) (by kernel_rfl)) ?_
  intro W base args ds gs before hval0 hW hcnd hsz0 _
  have hval : ∀ (j : Nat) t v, Try.f3.params[j]? = some t → args[j]? = some v → Value.okWide Try.prog W .any base t v := hval0
  have hsz : (DataW.weightsEach Try.prog (Try.f3.params.toList ++ Rows.slotDiesSpec.plain.varTypes Try.prog) (ds ++ gs)).all (· ≤ reachBytes) = true := hsz0
  have hW' := hW
  obtain ⟨p, q, hA0, hV, rfl, hfz, hnd⟩ := hW
  have hA : DataW.TrodAll enc Try.prog W 0 (fun _ => true) true Try.f3.params.toList args.toList ds p := hA0
  rw [Try.params3] at hA hval hsz
  obtain ⟨v0, vs0, d0, ds0, p0, q0, hargs, rfl, rfl, h0, r0⟩ := trodAll_cons hA
  obtain ⟨v1, vs1, d1, ds1, p1, q1, rfl, rfl, rfl, h1, r1⟩ := trodAll_cons r0
  obtain ⟨v2, vs2, d2, ds2, p2, q2, rfl, rfl, rfl, h2, r2⟩ := trodAll_cons r1
  obtain ⟨rfl, rfl, rfl⟩ := trodAll_nil r2
  obtain rfl : args = #[v0, v1, v2] := by cases args; simp_all
  obtain ⟨rfl, rfl⟩ := trodVars_none hV
  have k0 := h0
  have lt0 : ∀ x ∈ p0, x.block < W.heap.size := by obtain ⟨m, hm⟩ := k0; exact DataW.trod_lt m _ _ _ hm
  have k2 := h2
  have lt2 : ∀ x ∈ p2, x.block < W.heap.size := by obtain ⟨m, hm⟩ := k2; exact DataW.trod_lt m _ _ _ hm
  obtain ⟨a0, l0, c0, rfl⟩ := okWide_slice Try.underlying22 (hval 0 22 v0 rfl rfl)
  obtain ⟨z1, rfl, rfl, rfl, w1⟩ := open_int Try.underlying5 (hval 1 5 v1 rfl rfl) h1
  obtain ⟨a2, l2, c2, rfl⟩ := okWide_slice Try.underlying23 (hval 2 23 v2 rfl rfl)
  obtain ⟨x0, y0⟩ : ∃ zs, D5sAt W (.slice a0 l0 c0) zs := by
    obtain ⟨m, hm⟩ := h0
    obtain ⟨v, zs, e, hr⟩ := deeds5_of_trod hm (each_le hsz (j := 0) rfl rfl)
    simp [Value.cells] at e
    subst e
    exact ⟨zs, hr⟩
  obtain ⟨x2, y2⟩ : ∃ zs, RowAt W (.slice a2 l2 c2) zs ∧ zs.length ≤ 140737488351232 := by
    obtain ⟨m, hm⟩ := h2
    obtain ⟨v, zs, e, hr, hz⟩ := row_of_trod hm (each_le hsz (j := 2) rfl rfl)
    simp [Value.cells] at e
    subst e
    exact ⟨zs, hr, hz⟩
  clear hA0 hval0
  refine (dies_any W _ x0 y0 z1 (bounds_u8 w1) _ x2 y2.1).mono fun e W' ⟨he, hk⟩ => ?_
  subst he
  have bel : Below W.heap.size W W' := hk.below (Nat.le_refl _) (by simp)
  exact ⟨_, rfl, _, _, _, [], _, [], hW', trodAll_mk1 (shut_bool Try.underlying4 _), (trodAll_cons_mk (Below.trod laidOut (by kernel_rfl) (of_decide_eq_true (by kernel_rfl)) k0 bel lt0) (trodAll_cons_mk (shut_int Try.underlying5 w1) (trodAll_cons_mk (Below.trod laidOut (by kernel_rfl) (of_decide_eq_true (by kernel_rfl)) k2 bel lt2) trodAll_mk0))), rfl, bel.frame _, fun h => by cases h⟩

theorem dies_holds : Rows.SlotDiesSaid :=
  OpenClaim.holds_of_wide 3 Try.f3 rfl rfl rfl rfl rfl rfl rfl ⟨rfl, rfl, rfl, rfl, rfl⟩ rfl rfl rfl rfl rfl (by kernel_rfl) Try.func3 (by kernel_rfl)
    (of_decide_eq_true (by kernel_rfl)) (by unfold Func.isWrapper; rw [if_neg (of_decide_eq_false (by kernel_rfl))]; exact ⟨rfl, rfl⟩)
    (fun os started H enc _ => dies_lifted os started H enc)

end Go.Proofs.Ytnjlhplcagkcnaa
