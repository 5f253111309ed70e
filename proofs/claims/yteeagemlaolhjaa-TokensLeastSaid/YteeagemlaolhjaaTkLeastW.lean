/- tokens: TokensLeast's walk. -/
import Derived.Test.YteeagemlaolhjaaTkN
import Derived.Test.YteeagemlaolhjaaOpenC
import Derived.BigQuiet
import Derived.Deep.OwnRows
namespace Go.Proofs.Yteeagemlaolhjaa
open Go.RowKit Go.Shelf
set_option maxRecDepth 100000
set_option linter.unusedSimpArgs false
set_option linter.unusedVariables false

theorem infoBool15 : (Try.prog.info? 4).map (fun i => (i.zero, i.size, i.bytes)) = some (some (.bool false), 1, 1) := by kernel_rfl
theorem bools_make15 (w : World) (n : Nat) (h1 : n ≤ 16) : (Instr.makeSlice 69 (.int .i64 (n : Int)) (.int .i64 (n : Int))).run Try.prog w = .ok (.slice (some ⟨w.heap.size, 0, none⟩) n n) (w.alloc (.cells (Array.replicate n (Value.bool false)) 4)) := by
  have := run_make_row' (P := Try.prog) 69 4 (.bool false) 1 Try.underlying69 infoBool15 rfl .i64 .i64 n (by omega) (by omega) w
  rw [this]
  congr 3
  apply Array.toList_inj.1
  rw [toList_madeCells_one]
  simp
theorem exec_makeBools15 {ρ : Operand → Value} {o : Oper} {w : World} (x : Operand) (n : Nat) (ho : o.op = .makeSlice 69 x x) (hx : ρ x = .int .i64 (n : Int)) (h1 : n ≤ 16) :
    (execOp ρ o).run Try.prog w = .ok (.value (.slice (some ⟨w.heap.size, 0, none⟩) n n)) (w.alloc (.cells (Array.replicate n (Value.bool false)) 4)) := by
  simp only [execOp, ho, hx, Sem.run_bind, bools_make15 w n h1, Result.andThen_ok, Sem.run_pure]
theorem bools_put15 {w : World} {g p : Nat} {bs : List Bool} (hb : w.heap[g]? = some (.cells ((bs.map Value.bool).toArray) 4 (0, 0))) (b : Bool) :
    (w.setCell ⟨g, p, none⟩ (.bool b)).heap[g]? = some (.cells (((bs.set p b).map Value.bool).toArray) 4 (0, 0)) ∧ Keeps [g] w (w.setCell ⟨g, p, none⟩ (.bool b)) := by
  have h5 := set_five hb (i := p) (.bool b)
  rw [List.setIfInBounds_toArray, ← List.map_set] at h5
  exact ⟨h5, set_keep⟩
theorem bools_at15 {w : World} {g p : Nat} {bs : List Bool} (hb : w.heap[g]? = some (.cells ((bs.map Value.bool).toArray) 4 (0, 0))) (hp : p < bs.length) : w.cell? ⟨g, p, none⟩ = some (.bool (bs.getD p false)) ∧ w.frozen? ⟨g, p, none⟩ = false := by
  obtain ⟨h1, h2⟩ := five_cells hb p
  refine ⟨?_, h2⟩
  rw [h1, List.getElem?_toArray, List.getElem?_map, List.getD_eq_getElem?_getD, List.getElem?_eq_getElem hp]
  rfl
theorem ls0 {c o : Int} (hco : c ≠ o) (ho : 0 ≤ o ∧ o ≤ 3) : (openK [] o 9 false).2 = [⟨o, 0, 9, false⟩] ∧ LsK c o [⟨o, 0, 9, false⟩] [false, false, false, false] := by
  have hm : mayK ⟨o, 0, 9, false⟩ = true := by unfold mayK; simp [btwK]; omega
  have e : (openK [] o 9 false).2 = [⟨o, 0, 9, false⟩] := by
    unfold openK
    rw [if_pos hm]
    rfl
  have g := GoodK.nil.open o 9 false
  rw [e] at g
  refine ⟨e, g, ?_, ?_, ?_, rfl⟩
  · have : keepK (sameCl c) ⟨o, 0, 9, false⟩ = true := by unfold keepK sameCl; simp; omega
    rw [List.filter_cons, if_pos this, List.filter_nil]
  · intro j hj
    have : atK c (j : Int) ⟨o, 0, 9, false⟩ = false := by unfold atK; simp [hco]
    rw [List.any_cons, this, List.any_nil]
    match j, hj with
    | 0, _ => rfl
    | 1, _ => rfl
    | 2, _ => rfl
    | 3, _ => rfl
  · intro x hx
    rw [List.mem_singleton.1 hx]
    exact ⟨rfl, fun h => by simp at h⟩

set_option maxHeartbeats 25600000 in
theorem least15_any (w : World) (cl : Int) (hcl : 0 ≤ cl ∧ cl ≤ 255) (v : Value) (zs : List Int) (hv : RowAt w v zs) : Calls Try.prog 7 #[.int .u8 cl, v] w (PB w true) := by
  obtain ⟨av, cv, rfl⟩ : ∃ a c, v = .slice a zs.length c := by obtain ⟨a, c, e, _⟩ := hv; exact ⟨a, c, e⟩
  have HV := hid hv
  obtain ⟨h0, h255⟩ := hcl
  obtain ⟨c, hc⟩ : ∃ c, c = cl % 4 := ⟨_, rfl⟩
  have hcb : 0 ≤ c ∧ c ≤ 3 := by omega
  have HC := hid hc
  clear hv
  have hc1 : cl.tmod 4 = c := by rw [hc, Int.tmod_eq_emod_of_nonneg h0]
  clear hc
  go_enter Try.func7, Try.ntmps7
  go_wp2_with fail
  refine (awake15_any w).mono ?_
  rintro e w0 ⟨rfl, k0⟩
  have K0 := hid k0
  clear k0
  by_cases hbig : 60 < zs.length
  · have hb1 : decide ((60 : Int) < (zs.length : Int)) = true := by simp; omega
    go_wp2_with fail
    go_ret
    exact ⟨rfl, K0.out⟩
  have hb1 : decide ((60 : Int) < (zs.length : Int)) = false := by simp; omega
  have hb2 : zs.length ≤ 60 := by omega
  clear hbig
  go_wp2_with fail
  refine (tkNew_any w0).mono ?_
  rintro e w1 ⟨rfl, t1, k1⟩
  obtain ⟨q, hq⟩ : ∃ q, q = w0.heap.size := ⟨_, rfl⟩
  have T1 := hid t1
  have K1 := hid (K0.out.trans k1)
  have HQ := hid t1.lt
  have HZ := hid K0.out.size
  rw [← hq] at T1 HQ HZ ⊢
  clear hq t1 k1 hb1
  obtain ⟨o, ho⟩ : ∃ o, o = (c + 1) % 4 := ⟨_, rfl⟩
  have hob : 0 ≤ o ∧ o ≤ 3 := by omega
  have hco : c ≠ o := by omega
  have ho1 : (c + 1).tmod 4 = o := by rw [ho, Int.tmod_eq_emod_of_nonneg (by omega)]
  clear ho
  go_wp2_with fail
  refine (open_any T1.out (by simpa using HQ.out) o 9 false (by decide)).mono ?_
  rintro e w2 ⟨rfl, t2, k2⟩
  obtain ⟨eo, L0⟩ := ls0 hco hob
  rw [eo] at t2
  have K2 := hid (keep_new K1.out k2 HZ.out)
  have HQ2 := hid (Nat.lt_of_lt_of_le HQ.out k2.size)
  have T2 := hid t2
  have LS0 := hid L0
  obtain ⟨op, hop⟩ : ∃ z, z = openK [] o 9 false := ⟨_, rfl⟩
  rw [← hop]
  obtain ⟨⟨x1, x2⟩, x3⟩ := op
  clear t2 k2 eo L0 hop
  go_wp2_with (first | (refine wpList_is rfl _ _ (exec_makeBools15 _ 4 rfl rfl (by omega)) ?_) | fail)
  obtain ⟨gh, hgh⟩ : ∃ z, z = w2.heap.size := ⟨_, rfl⟩
  have HGQ := hid (show q < gh by have := HQ2.out; omega)
  have ka : Keeps [] w2 (w2.alloc (.cells (Array.replicate 4 (Value.bool false)) 4)) := (Keeps.refl [] w2).alloc _
  have T3 := hid ((T2.out.more (N := [q, gh]) (fun b hb => by
    simp only [List.mem_cons, List.not_mem_nil, or_false] at hb
    rcases hb with rfl | rfl
    · exact Or.inl (by simp)
    · exact Or.inr (by omega)) (by simp)).later ka)
  have B3 : Hid ((w2.alloc (.cells (Array.replicate 4 (Value.bool false)) 4)).heap[gh]? = some (.cells (([false, false, false, false].map Value.bool).toArray) 4 (0, 0))) := hid (by rw [hgh]; exact heap_alloc_new w2 _)
  have K3 := hid (K2.out.trans ka)
  have HQ3 := hid (show gh < (w2.alloc (.cells (Array.replicate 4 (Value.bool false)) 4)).heap.size by rw [hgh]; simp)
  have HWG := hid (show w.heap.size ≤ gh by have := HZ.out; have := K0.out.size; have := HGQ.out; omega)
  rw [← hgh]
  generalize w2.alloc (.cells (Array.replicate 4 (Value.bool false)) 4) = w3 at T3 B3 K3 HQ3 ⊢
  clear hgh ka T2
  have HQW := hid (show w.heap.size ≤ q by have := HZ.out; have := K0.out.size; omega)
  go_wp2_with fail
  go_loopw [9, 10, 11, 12, 13, 14] (fun iv _ _ _ _ _ wr => ∃ (i : Nat) (rs : List Rk) (bs : List Bool), iv = .int .i64 (i : Int) ∧ i ≤ zs.length ∧ Hid (TokAt wr [q, gh] q rs) ∧ Hid (wr.heap[gh]? = some (.cells ((bs.map Value.bool).toArray) 4 (0, 0))) ∧ Hid (LsK c o rs bs) ∧ Hid (rs.length ≤ i + 1) ∧ Hid (Keeps [] w wr)) (fun iv _ _ _ _ _ _ => zs.length - (intOf iv).toNat)
  case atStart => exact ⟨0, _, _, rfl, by omega, T3, B3, LS0, hid (by simp), K3⟩
  case round =>
    obtain ⟨i, rs, bs, rfl, hi, TT, BB, LS, LL, KK⟩ := hrel
    rename World => wo
    have HM := hid (show ∀ b ∈ [q, gh], b < wo.heap.size from fun b hb => by
      have h1 := TT.out.lt
      have h2 := lt_of_block BB.out
      simp only [List.mem_cons, List.not_mem_nil, or_false] at hb
      rcases hb with rfl | rfl <;> assumption)
    have LN := hid LS.out.len
    by_cases hlt : i < zs.length
    · have hrow := HV.out.keep KK.out (by intro _ _ _ _ _; simp)
      obtain ⟨gd, od, cd, e, hcap, hcell⟩ := hrow.open (by omega)
      injection e with e1 _ e3
      subst e1; subst e3
      have cz := hcell i hlt
      have hzb := HV.out.bytes (zs.getD i 0) (by rw [List.getD_eq_getElem?_getD, List.getElem?_eq_getElem hlt]; exact List.getElem_mem hlt)
      obtain ⟨z, hz⟩ : ∃ z, z = zs.getD i 0 := ⟨_, rfl⟩
      rw [← hz] at cz hzb
      obtain ⟨hz0, hz255⟩ := hzb
      obtain ⟨k, hk⟩ : ∃ k : Nat, z % 4 = (k : Int) := Int.eq_ofNat_of_zero_le (by omega)
      have hk4 : k < 4 := by omega
      have hz1 : z.tmod 4 = (k : Int) := by rw [Int.tmod_eq_emod_of_nonneg hz0, hk]
      obtain ⟨y, hy⟩ : ∃ y, bits BinOp.and IntKind.u8 z 64 = y := ⟨_, rfl⟩
      clear hrow hcell hz hk hcap
      by_cases hy0 : y = 0
      · have hy1 : (y != 0) = false := by simp [hy0]
        clear hy0
        go_wp2_with fail
        go_loop [11, 12] (fun wv jv => ∃ m : Nat, m ≤ 4 ∧ jv = .int .i64 ((m : Int) - 1) ∧ wv = .int .i64 (wantK bs m)) (fun _ jv => (intOf jv + 1).toNat)
        case atStart => exact ⟨4, by omega, rfl, rfl⟩
        case round =>
          obtain ⟨m, hm, rfl, rfl⟩ := hrel
          by_cases hm0 : m = 0
          · subst hm0
            rcases LS.out.want with ⟨k2, hk2, hl, hw, hb⟩ | ⟨hl, hw⟩
            · obtain ⟨eo, lo⟩ := LS.out.open hcb hl hk2
              rw [hw]
              have LO := hid lo
              have EO := hid eo
              have HB2 := hid (bools_at15 BB.out (show k2 < bs.length by have := LN.out; omega))
              clear hl hw hb eo lo
              go_wp2_with fail
              refine (open_any TT.out HM.out c 5 false (by have := LL.out; omega)).mono ?_
              rintro e w5 ⟨rfl, t5, k5⟩
              rw [EO.out] at t5 ⊢
              have B5 := hid ((k5.block gh (lt_of_block BB.out) (by have := HGQ.out; simp; omega)).trans BB.out)
              have K5 := hid (keep_new KK.out k5 HQW.out)
              have T5 := hid t5
              have LN5 := hid (insK_len ⟨c, (k2 : Int), 5, false⟩ rs)
              obtain ⟨cc, ff⟩ := bools_at15 B5.out (show k2 < bs.length by have := LN.out; omega)
              obtain ⟨p5, s5⟩ := bools_put15 B5.out (p := k2) true
              have P5 := hid p5
              have T6 := hid (T5.out.keep s5 (by have := HGQ.out; simp; omega) (by simp))
              have K6 := hid (K5.out.trans' s5 (fun i hi hm => by have := HWG.out; simp at hm; omega))
              clear t5 k5 p5 s5
              go_wp2_with fail
              go_roundw
              case rel => exact ⟨i + 1, _, _, by go_num, by omega, T6, P5, LO, hid (by have := LN5.out; have := LL.out; omega), K6⟩
              case measure => simp [intOf]; omega
            · have eo := LS.out.full hcb hl
              rw [hw]
              have EO := hid eo
              clear hl hw eo
              go_wp2_with fail
              refine (open_any TT.out HM.out c 5 false (by have := LL.out; omega)).mono ?_
              rintro e w5 ⟨rfl, t5, k5⟩
              rw [EO.out] at t5 ⊢
              have B5 := hid ((k5.block gh (lt_of_block BB.out) (by have := HGQ.out; simp; omega)).trans BB.out)
              have K5 := hid (keep_new KK.out k5 HQW.out)
              have T5 := hid t5
              clear t5 k5
              go_wp2_with fail
              go_roundw
              case rel => exact ⟨i + 1, _, _, by go_num, by omega, T5, B5, LS, hid (by have := LL.out; omega), K5⟩
              case measure => simp [intOf]; omega
          · obtain ⟨m, rfl⟩ : ∃ j, m = j + 1 := ⟨m - 1, by omega⟩
            have hmm : ((m + 1 : Nat) : Int) - 1 = (m : Int) := by omega
            rw [hmm]
            obtain ⟨cc, ff⟩ := bools_at15 BB.out (show m < bs.length by have := LN.out; omega)
            have WS := hid (wantK_step bs m (by omega))
            obtain ⟨bb, hbb⟩ : ∃ z, z = bs.getD m false := ⟨_, rfl⟩
            rw [← hbb] at cc WS
            clear hbb
            cases bb with
            | true =>
              go_wp2_with fail
              go_round
              case rel => exact ⟨m, by omega, rfl, by rw [WS.out] <;> rfl⟩
              case measure => simp [intOf] <;> omega
            | false =>
              go_wp2_with fail
              go_round
              case rel => exact ⟨m, by omega, rfl, by rw [WS.out] <;> rfl⟩
              case measure => simp [intOf] <;> omega
      · have hy1 : (y != 0) = true := by simp [hy0]
        clear hy0
        have CL := hid (LS.out.close hco hk4)
        have FL := hid (List.length_filter_le (keepK (atK c (k : Int))) rs)
        have BA := hid (bools_at15 BB.out (show k < bs.length by have := LN.out; omega))
        obtain ⟨bb, hbb⟩ : ∃ z, z = bs.getD k false := ⟨_, rfl⟩
        rw [← hbb] at BA CL
        have HQG := hid (show gh ∉ [q] by have := HGQ.out; simp; omega)
        have HGL := hid (lt_of_block BB.out)
        clear hbb
        go_wp2_with fail
        refine wp_region_any (by kernel_rfl) (wpAny_of_held (S := KpS [q] wo.heap.size wo.drew) _ _ _ _ ?_)
        change wpAnyH _ _ _ _ _ _ _ _ wo.drew
        refine held_take (i := 0) (v := .pointer (some ⟨q, 0, none⟩)) rfl (by kernel_rfl) (by kernel_rfl) (by kernel_rfl) (fun _ _ _ h => h) rfl (fun W1 hW1 => rfl) (KpS.refl _ _ _) ?_
        simp only [Act.put, List.setIfInBounds_toArray, List.set_cons_zero, List.set_cons_succ]
        refine held_take (i := 1) (v := .int .i64 c) rfl (by kernel_rfl) (by kernel_rfl) (by kernel_rfl) (fun _ _ _ h => h) rfl (fun W1 hW1 => rfl) (KpS.refl _ _ _) ?_
        simp only [Act.put, List.setIfInBounds_toArray, List.set_cons_zero, List.set_cons_succ]
        refine held_take (i := 2) (v := .int .i64 (k : Int)) rfl (by kernel_rfl) (by kernel_rfl) (by kernel_rfl) (fun _ _ _ h => h) rfl (fun W1 hW1 => rfl) (KpS.refl _ _ _) ?_
        simp only [Act.put, List.setIfInBounds_toArray, List.set_cons_zero, List.set_cons_succ]
        refine held_take (i := 5) (v := .slice (some ⟨gh, 0, none⟩) 4 4) rfl (by kernel_rfl) (by kernel_rfl) (by kernel_rfl) (fun _ _ _ h => h) rfl (fun W1 hW1 => rfl) (KpS.refl _ _ _) ?_
        simp only [Act.put, List.setIfInBounds_toArray, List.set_cons_zero, List.set_cons_succ]
        refine held_take (i := 6) (v := .int .i64 (k : Int)) rfl (by kernel_rfl) (by kernel_rfl) (by kernel_rfl) (fun _ _ _ h => h) rfl (fun W1 hW1 => rfl) (KpS.refl _ _ _) ?_
        simp only [Act.put, List.setIfInBounds_toArray, List.set_cons_zero, List.set_cons_succ]
        refine held_take (i := 7) (v := .pointer (some ⟨gh, k, none⟩)) rfl (by kernel_rfl) (by kernel_rfl) (by kernel_rfl) (fun _ _ _ h => h) rfl (fun W1 hW1 => by go_simp <;> omega) (KpS.refl _ _ _) ?_
        simp only [Act.put, List.setIfInBounds_toArray, List.set_cons_zero, List.set_cons_succ]
        refine held_take (i := 8) (v := .bool bb) rfl (by kernel_rfl) (by kernel_rfl) (by kernel_rfl) (fun _ _ _ h => h) rfl (fun W1 hW1 => exec_load _ _ _ _ rfl rfl (run_loadCell W1 _ _ _ (hW1.cell (by rw [World.cell?_drew]; exact BA.out.1) HGL.out HQG.out) (agg_no _ (by kernel_rfl)))) (KpS.refl _ _ _) ?_
        simp only [Act.put, List.setIfInBounds_toArray, List.set_cons_zero, List.set_cons_succ]
        refine held_do (i := 3) (by kernel_rfl) rfl rfl (wp_enter (f := 11) (args := #[.pointer (some ⟨q, 0, none⟩), .int .i64 c, .int .i64 (k : Int)]) (by go_simp) (close_any (TT.out.later (Keeps.refl [] wo).drew) HM.out c (k : Int)) ?_)
        rintro e w5 ⟨rfl, t5, k5⟩
        have s5 : KpS [q] wo.heap.size wo.drew w5 := (KpS.refl _ _ _).keeps k5 (Nat.le_refl _) (by simp)
        refine ⟨_, rfl, s5, ?_⟩
        simp only [Act.put, List.setIfInBounds_toArray, List.set_cons_zero, List.set_cons_succ]
        rw [CL.out.1]
        refine held_take (i := 4) (v := .bool bb) rfl (by kernel_rfl) (by kernel_rfl) (by kernel_rfl) (fun _ _ _ h => h) rfl (fun W1 hW1 => by cases bb <;> go_simp) (s5) ?_
        simp only [Act.put, List.setIfInBounds_toArray, List.set_cons_zero, List.set_cons_succ]
        refine held_take (i := 9) (v := .bool false) rfl (by kernel_rfl) (by kernel_rfl) (by kernel_rfl) (fun _ _ _ h => h) rfl (fun W1 hW1 => by cases bb <;> go_simp) (s5) ?_
        simp only [Act.put, List.setIfInBounds_toArray, List.set_cons_zero, List.set_cons_succ]
        refine wpAnyH_done (by kernel_rfl) ?_ _
        have k5' : Keeps [q] wo w5 := ((Keeps.refl [q] wo).drew).trans k5
        have B5 := hid ((k5'.block gh HGL.out HQG.out).trans BB.out)
        have K5 := hid (keep_new KK.out k5' HQW.out)
        have T5 := hid t5
        obtain ⟨cc, ff⟩ := bools_at15 B5.out (show k < bs.length by have := LN.out; omega)
        obtain ⟨p5, q5⟩ := bools_put15 B5.out (p := k) false
        have P5 := hid p5
        have T6 := hid (T5.out.keep q5 (by have := HGQ.out; simp; omega) (by simp))
        have K6 := hid (K5.out.trans' q5 (fun i hi hm => by have := HWG.out; simp at hm; omega))
        clear t5 k5 k5' s5 p5 q5
        go_wp2_with fail
        go_roundw
        case rel => exact ⟨i + 1, _, _, by go_num, by omega, T6, P5, hid CL.out.2, hid (by have := FL.out; have := LL.out; omega), K6⟩
        case measure => simp [intOf]; omega
    · obtain rfl : i = zs.length := by omega
      go_wp2_with fail
      go_loop [15, 16] (fun nv jv => ∃ m : Nat, m ≤ 4 ∧ jv = .int .i64 (m : Int) ∧ nv = .int .i64 ((cntB bs m : Nat) : Int) ∧ cntB bs m ≤ m) (fun _ jv => 4 - (intOf jv).toNat)
      case atStart => exact ⟨0, by omega, rfl, rfl, by simp [cntB]⟩
      case round =>
        obtain ⟨m, hm, rfl, rfl, hcm⟩ := hrel
        by_cases hm4 : m < 4
        · obtain ⟨cc, ff⟩ := bools_at15 BB.out (show m < bs.length by have := LN.out; omega)
          have WS := hid (cntB_succ (bs := bs) (k := m) (by have := LN.out; omega))
          obtain ⟨bb, hbb⟩ : ∃ z, z = bs.getD m false := ⟨_, rfl⟩
          rw [← hbb] at cc WS
          obtain ⟨n, hn⟩ : ∃ z, z = cntB bs m := ⟨_, rfl⟩
          rw [← hn] at WS hcm ⊢
          clear hbb hn
          cases bb with
          | true =>
            go_wp2_with fail
            go_round
            case rel => exact ⟨m + 1, by omega, by go_num, by rw [WS.out]; go_num, by rw [WS.out]; simp; omega⟩
            case measure => simp [intOf]; omega
          | false =>
            go_wp2_with fail
            go_round
            case rel => exact ⟨m + 1, by omega, by go_num, by rw [WS.out]; go_num, by rw [WS.out]; simp; omega⟩
            case measure => simp [intOf]; omega
        · obtain rfl : m = 4 := by omega
          have CN := hid LS.out.cnt
          obtain ⟨n, hn⟩ : ∃ z, z = cntB bs 4 := ⟨_, rfl⟩
          rw [← hn] at CN ⊢
          have OT := hid (LS.out.other hco)
          have OF := hid LS.out.oth
          clear hn hcm
          go_wp2_with fail
          refine (of_any TT.out o 0).mono ?_
          rintro e w5 ⟨rfl, k5⟩
          rw [OT.out.1, OT.out.2]
          have T5 := hid (TT.out.later (k5.alloc (.cells (Rk.cells ⟨o, 0, 9, false⟩).toArray 47)))
          have K5 := hid (KK.out.trans (k5.alloc (.cells (Rk.cells ⟨o, 0, 9, false⟩).toArray 47)))
          have HM5 := hid (fun b hb => Nat.lt_of_lt_of_le (HM.out b hb) (k5.alloc (.cells (Rk.cells ⟨o, 0, 9, false⟩).toArray 47)).size)
          have R5 := hid (rkrange_new w5 (Rk.cells ⟨o, 0, 9, false⟩) 47)
          have Q5 := hid (show q < w5.heap.size from Nat.lt_of_lt_of_le TT.out.lt k5.size)
          clear k5
          go_wp2_with (first | (refine wpList_allocRk cRk rfl rfl ?_) | (refine wpList_newRk cRk rfl w5 _ _ rfl rfl rfl ⟨o, 0, 9, false⟩ rfl ?_) | (go_at_call 13; refine Hid.out ?_) | fail)
          refine hid ?_
          generalize w5.alloc (.cells (Rk.cells ⟨o, 0, 9, false⟩).toArray 47) = w6 at T5 K5 HM5 R5 ⊢
          refine (drop_any T5.out HM5.out c).mono ?_
          rintro e w7 ⟨rfl, t7, k7⟩
          have nb := CN.out
          rw [nb]
          rw [OF.out] at t7
          have T7 := hid t7
          have K7 := hid (keep_new K5.out k7 HQW.out)
          obtain ⟨c0, c1, c2, c3⟩ := rkrange_at (rkrange_keep R5.out k7 (by have := Q5.out; simp; omega))
          simp only [Nat.zero_add] at c2
          clear t7 k7 c0 c1 c3 nb
          go_wp2_with (first | (go_at_call 22; refine Hid.out ?_) | fail)
          refine hid ?_
          refine (rowsF_any T7.out [] (by simp)).mono ?_
          rintro e w8 ⟨a8, c8, rfl, o8, k8⟩
          have T8 := hid (T7.out.later k8)
          have K8 := hid (K7.out.trans k8)
          clear o8 k8 c2
          go_wp2_with fail
          refine (busy_any T8.out 5).mono ?_
          rintro e w9 ⟨rfl, k9⟩
          have K9 := hid (K8.out.trans k9)
          rw [show ([⟨o, 0, 9, false⟩] : List Rk).any (freeIno 5) = false from rfl]
          clear k9
          go_wp2_with fail
          go_ret
          exact ⟨rfl, K9.out⟩
end Go.Proofs.Yteeagemlaolhjaa
