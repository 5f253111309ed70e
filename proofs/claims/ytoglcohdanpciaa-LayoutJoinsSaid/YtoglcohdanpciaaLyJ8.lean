/- LyRa, LyRc, LyRd, LyRb. -/
import Derived.Test.YtoglcohdanpciaaLyJ7
/- layout: the reference's part and parts. -/
namespace Go.Proofs.Ytoglcohdanpciaa
open Go.RowKit Go.Shelf
set_option maxRecDepth 100000
set_option linter.unusedSimpArgs false
set_option linter.unusedVariables false

set_option maxHeartbeats 3200000 in
theorem rPart_any (w : World) (v : Value) (d : List Int) (i n : Nat) (hd : RowAt w v d) (h3 : 3 ≤ n) (h16 : n ≤ 16) (hi : i < n) (hl : d.length ≤ 400 * (n - 1)) :
    Calls Try.prog 114 #[v, .int .i64 i, .int .i64 n] w fun e w' => w = w' ∧ ∃ a c, e = .returned (.slice a (partL d i n).length c) ∧ RowAt w (.slice a (partL d i n).length c) (partL d i n) := by
  obtain ⟨va, vc, rfl, _⟩ := id hd
  have A := reach_as w d.length n (by omega)
  rw [eN_is h3 h16] at A
  have hem := eN_most hl
  have hle : fromN i d.length n + lenN i d.length n ≤ d.length := by unfold fromN lenN; omega
  obtain ⟨a1, s1, s2, s3⟩ := row_sub hd (fromN i d.length n) (lenN i d.length n) hle
  have R1 := hid (s2 w hd)
  have S1 := hid s1
  have PL := hid (partL_len d i n)
  have PI := hid (show partL d i n = (d.drop (fromN i d.length n)).take (lenN i d.length n) from rfl)
  have m0 : 0 ≤ (i : Int) * (eN d.length n : Int) := Int.mul_nonneg (by omega) (by omega)
  have m1 : (i : Int) * (eN d.length n : Int) ≤ 16 * 400 := Int.mul_le_mul (by omega) (by omega) (by omega) (by omega)
  have F1 := hid (show ((fromN i d.length n : Nat) : Int) = min ((i : Int) * (eN d.length n : Int)) (d.length : Int) by
    unfold fromN; rw [← Int.natCast_mul]; omega)
  have F2 := hid (show ((fromN i d.length n + lenN i d.length n : Nat) : Int) = min ((fromN i d.length n : Int) + (eN d.length n : Int)) (d.length : Int) by
    unfold fromN lenN; omega)
  clear s1 s2 s3 hd
  generalize fromN i d.length n = f at *
  generalize lenN i d.length n = m at *
  generalize eN d.length n = e0 at *
  go_enter Try.func114, Try.ntmps114
  go_wp2_with fail
  refine A.mono ?_
  clear A
  rintro e w' ⟨rfl, rfl⟩
  go_wp2_with (first | (refine wpList_is rfl _ _ (exec_minK _ _ rfl rfl ((i : Int) * (e0 : Int)) (d.length : Int) (f : Int) rfl rfl F1.out) ?_) | (refine wpList_is rfl _ _ (exec_minK _ _ rfl rfl ((f : Int) + (e0 : Int)) (d.length : Int) ((f + m : Nat) : Int) rfl rfl F2.out) ?_) | (refine wpList_is rfl _ _ (exec_sliceK 34 _ _ _ _ _ rfl (S1.out _)) ?_) | fail)
  go_ret
  refine ⟨rfl, a1, vc - f, by rw [PL.out]; rfl, ?_⟩
  rw [PL.out, PI.out]
  exact R1.out

theorem run_append_head (w : World) (B : Nat) (v : Value) (n : Nat) (xs : List Value) (hown : w.ownsRow B 34 1 v n xs) (b : Nat) (r : Value) (hr : w.cell? ⟨b, 0, none⟩ = some r) (h1 : r.oneCell' = true) (hn : n ≤ 1000) (hbase : B ≤ w.heap.size) :
    ∃ a' c' w', (Builtin.append_ #[26, 26] 26 #[v, .slice (some ⟨b, 0, none⟩) 1 1]).run Try.prog w = .ok (.slice a' (n + 1) c') w' ∧ w'.ownsRow B 34 1 (.slice a' (n + 1) c') (n + 1) (xs ++ [r]) ∧ w.grownBy w' v.ownBlock ∧ NewRow w v (.slice a' (n + 1) c') := by
  obtain ⟨i, hi, hz, hsize, hby⟩ := info_parts info25
  have hnews : ∀ j u, [r][j]? = some u → w.cell? ((⟨b, 0, none⟩ : Addr).add j) = some u := by
    intro j u hu
    rw [Addr.add_lit]
    match j, hu with
    | 0, hu => simp at hu; subst hu; exact hr
  have hone : ∀ u ∈ [r], u.oneCell' = true := by simp [h1]
  obtain ⟨v', w', hrun, ho, hg, _⟩ := run_append_own (P := Try.prog) w B 26 26 34 i (.slice none 0 0) 1 24 Try.underlying26 hi hz hsize hby rfl (by omega) v n xs hown ⟨b, 0, none⟩ 1 1 [r] rfl hnews hone (by unfold maxLen; omega) (by omega) hbase
  obtain ⟨a', c', rfl⟩ := ownsRow_slice ho
  refine ⟨a', c', w', hrun, ho, hg, ?_⟩
  rcases hown.2 with ⟨rfl, rfl⟩ | ⟨g, cap, cur, rfl, _, hgg, hnc, _, hcs, htake⟩
  · right
    have hx : xs = [] := List.eq_nil_of_length_eq_zero (by simpa using hown.1)
    subst hx
    obtain ⟨v2, w2, hr2, ho2, _⟩ := run_append_own (P := Try.prog) w w.heap.size 26 26 34 i (.slice none 0 0) 1 24 Try.underlying26 hi hz hsize hby rfl (by omega) (.slice none 0 0) 0 [] (World.ownsRow_nil _ _ _ _) ⟨b, 0, none⟩ 1 1 [r] rfl hnews hone (by unfold maxLen; omega) (by omega) (Nat.le_refl _)
    rw [hrun] at hr2
    injection hr2 with e1 e2
    subst e1; subst e2
    exact fun k hk => (ho2.lt k hk).1
  · by_cases hroom : n + 1 ≤ cap
    · left
      have hr2 := run_append_room (P := Try.prog) w 26 26 34 i Try.underlying26 hi g n cap cur hgg ⟨b, 0, none⟩ 1 1 [r] (by rw [hsize]; rfl) hnews hone hroom (by rw [hsize, hcs, List.length_singleton]; omega)
      rw [hrun] at hr2
      injection hr2 with e1 e2
      injection e1 with e1 _ _
      subst e1; rfl
    · right
      have hr2 := run_append_grow (P := Try.prog) w 26 26 34 i (.slice none 0 0) Try.underlying26 hi hz ⟨g, 0, none⟩ n cap xs (by rw [hsize]; exact hown.1) (hown.cells (g := g) rfl) ⟨b, 0, none⟩ 1 1 [r] (by rw [hsize]; rfl) hnews (by omega) (by omega) (growslice_fits (by omega) (by rw [hby]; omega))
      rw [hrun] at hr2
      injection hr2 with e1 e2
      injection e1 with e1 _ _
      subst e1
      intro k hk
      simp [Value.ownBlock] at hk
      omega
/-- Rows that a list of heads of one's own has, while it grows. -/
structure GrowAt (w0 w : World) (v : Value) (ls : List (List Int)) : Prop where
  own : ∃ vs, w.ownsRow w0.heap.size 34 1 v ls.length vs ∧ vs.length = ls.length ∧ ∀ j (h : j < vs.length), RowAt w vs[j] (ls.getD j []) ∧ Off v.ownBlock.toList vs[j] (ls.getD j [])
  few : ∀ l ∈ ls, l.length ≤ 140737488351232
  kept : Keeps [] w0 w
theorem GrowAt.start (w : World) : GrowAt w w (.slice none 0 0) [] := ⟨⟨[], World.ownsRow_nil _ _ _ _, rfl, fun j h => absurd h (Nat.not_lt_zero _)⟩, by simp, Keeps.refl _ _⟩
theorem GrowAt.rs {w0 w : World} {v : Value} {ls : List (List Int)} (h : GrowAt w0 w v ls) : RsAt w v ls := by
  obtain ⟨vs, ho, hl, hr⟩ := h.own
  exact rs_own ho hl rfl (fun j hj => (hr j hj).1) h.few
theorem GrowAt.step {w0 w w1 : World} {v r : Value} {ls : List (List Int)} {zs : List Int} (h : GrowAt w0 w v ls) (k : Keeps [] w w1) (hr : RowAt w1 r zs) (hnew : ∀ ad m c, r = .slice (some ad) m c → w.heap.size ≤ ad.block) (hl : zs.length ≤ 140737488351232) (hn : ls.length ≤ 1000) :
    ∃ a' c' w2, (Builtin.append_ #[26, 26] 26 #[v, .slice (some ⟨w1.heap.size, 0, none⟩) 1 1]).run Try.prog (w1.alloc (.cells #[r] 34)) = .ok (.slice a' (ls.length + 1) c') w2 ∧ GrowAt w0 w2 (.slice a' (ls.length + 1) c') (ls ++ [zs]) := by
  obtain ⟨vs, ho, hlv, hrow⟩ := h.own
  have ka : Keeps [] w1 (w1.alloc (.cells #[r] 34)) := (Keeps.refl [] _).alloc _
  have k1 := k.trans ka
  obtain ⟨ra, rc, rfl⟩ : ∃ a c, r = .slice a zs.length c := by obtain ⟨a, c, e, _⟩ := hr; exact ⟨a, c, e⟩
  have hcell : (w1.alloc (.cells #[.slice ra zs.length rc] 34)).cell? ⟨w1.heap.size, 0, none⟩ = some (.slice ra zs.length rc) := by
    rw [(five_cells (heap_alloc_new w1 _) 0).1]; rfl
  obtain ⟨a', c', w2, hrun, ho2, hg, hnr⟩ := run_append_head _ w0.heap.size v ls.length vs (own_keeps ho k1) w1.heap.size _ hcell rfl hn (by have := h.kept.size; have := k1.size; omega)
  refine ⟨a', c', w2, hrun, ?_, ?_, ?_⟩
  · refine ⟨vs ++ [.slice ra zs.length rc], by rw [List.length_append, List.length_singleton]; exact ho2, by simp [hlv], fun j hj => ?_⟩
    have hown : ∀ b, v.ownBlock = some b → b < w.heap.size := fun b hb => (ho.lt b hb).2
    have hK : Keeps v.ownBlock.toList (w1.alloc (.cells #[.slice ra zs.length rc] 34)) w2 := (Keeps.refl _ _).grown hg (by intro g e; left; simp [e])
    by_cases hj' : j < vs.length
    · obtain ⟨q1, q2⟩ := hrow j hj'
      rw [List.getElem_append_left hj', List.getD_eq_getElem?_getD, List.getElem?_append_left (by omega), ← List.getD_eq_getElem?_getD]
      refine ⟨(q1.keep k1 (by intro _ _ _ _ _; simp)).keep hK q2, ?_⟩
      rcases hnr with e | e
      · rw [e]; exact q2
      · intro ad m c he hne hm
        have hb := e ad.block (by simpa using hm)
        have hpos : 0 < (ls.getD j []).length := List.length_pos_iff.2 hne
        obtain ⟨g2, off, cap, he2, _, hc2⟩ := q1.open hpos
        rw [he] at he2
        injection he2 with he2 _ _
        injection he2 with he2
        subst he2
        have := World.block_lt_of_cell? _ _ (hc2 0 hpos)
        have := k1.size
        simp at *
        omega
    · have hje : j = vs.length := by simp at hj; omega
      subst hje
      rw [List.getElem_append_right (Nat.le_refl _), List.getD_eq_getElem?_getD, List.getElem?_append_right (by omega), show vs.length - ls.length = 0 by omega]
      simp only [Nat.sub_self, List.getElem_cons_zero, List.getElem?_cons_zero, Option.getD_some]
      have hoff : Off v.ownBlock.toList (.slice ra zs.length rc) zs := fun ad m c he hne hm => by
        have h1 := hnew ad m c he
        have h2 := hown ad.block (by simpa using hm)
        omega
      refine ⟨(hr.keep ka (by intro _ _ _ _ _; simp)).keep hK hoff, ?_⟩
      rcases hnr with e | e
      · rw [e]; exact hoff
      · intro ad m c he hne hm
        have hb := e ad.block (by simpa using hm)
        have hpos : 0 < zs.length := List.length_pos_iff.2 hne
        obtain ⟨g2, off, cap, he2, _, hc2⟩ := hr.open hpos
        rw [he] at he2
        injection he2 with he2 _ _
        injection he2 with he2
        subst he2
        have := World.block_lt_of_cell? _ _ (hc2 0 hpos)
        simp at *
        omega
  · intro l hl'
    rcases List.mem_append.1 hl' with h1 | h1
    · exact h.few l h1
    · simp at h1; rw [h1]; exact hl
  · exact (h.kept.trans k1).grown hg (fun g e => Or.inr (by have := (ho.lt g e).1; omega))
set_option maxHeartbeats 6400000 in
theorem rParts_any (w : World) (v : Value) (d : List Int) (n : Nat) (hd : RowAt w v d) (h3 : 3 ≤ n) (h16 : n ≤ 16) (hl : d.length ≤ 400 * (n - 1)) :
    Calls Try.prog 66 #[v, .int .i64 n] w fun e w' => ∃ a c, e = .returned (.slice a n c) ∧ GrowAt w w' (.slice a n c) (rowsL d n) := by
  obtain ⟨va, vc, rfl, _⟩ := id hd
  have HD := hid hd
  have RL := hid (rowsL_len (d := d) h3)
  have DLn := hid (dataL_len d n)
  have LONG := hid (show longest (dataL d n) ≤ 400 by rw [longest_data h3]; exact eN_most hl)
  have HL := hid hl
  clear hd hl
  go_enter Try.func66, Try.ntmps66
  go_wp2_with fail
  go_loopw [5, 6] (fun t iv wr => ∃ (i : Nat) (a : Option Addr) (c : Nat), i ≤ n - 1 ∧ iv = .int .i64 (i : Int) ∧ t = .slice a i c ∧ Hid (GrowAt w wr (.slice a i c) ((dataL d n).take i))) (fun _ iv _ => n - 1 - (intOf iv).toNat)
  case atStart => exact ⟨0, none, 0, by omega, rfl, rfl, hid (GrowAt.start w)⟩
  case round =>
    obtain ⟨i, a, c, hi, rfl, rfl, HG⟩ := hrel
    by_cases hlt : i < n - 1
    · have HDr := hid (HD.out.keep HG.out.kept (by intro _ _ _ _ _; simp))
      have hA := rPart_any wr _ d i n HDr.out h3 h16 (by omega) HL.out
      have LT := hid (show ((dataL d n).take i).length = i by rw [List.length_take, DLn.out]; omega)
      have TK := hid (show (dataL d n).take (i + 1) = (dataL d n).take i ++ [partL d i n] by
        rw [List.take_succ_eq_append_getElem (by rw [DLn.out]; exact hlt), dataL_get])
      have PB := hid (show (partL d i n).length ≤ 400 by
        refine Nat.le_trans (le_longest (l := dataL d n) ?_) LONG.out
        exact List.mem_map.2 ⟨i, by simp; omega, rfl⟩)
      obtain ⟨pl, hpl⟩ : ∃ x, x = partL d i n := ⟨_, rfl⟩
      rw [← hpl] at hA TK PB
      have HA := hid hA
      clear hA hpl
      go_wp2_with fail
      refine HA.out.mono ?_
      clear HA
      rintro e w1 ⟨rfl, pa, pc, rfl, pr⟩
      have PR := hid pr
      have hC := hid (copy_any wr _ pl PR.out (by have := PB.out; omega))
      clear pr
      go_wp2_with fail
      refine hC.out.mono ?_
      clear hC
      rintro e w2 ⟨ca, cc, rfl, co, ck⟩
      have hrow : RowAt w2 (.slice ca pl.length cc) pl := row_of_own co (fun z hz => PR.out.bytes z hz)
      obtain ⟨a', c', w3, hrun, hG3⟩ := HG.out.step ck hrow (fun ad m c he => by
        injection he with he _ _
        exact own_lo co ad he) (by have := PB.out; omega) (by rw [LT.out]; omega)
      rw [LT.out] at hrun hG3
      rw [← TK.out] at hG3
      have RUN := hid hrun
      have HG3 := hid hG3
      clear co ck hrow hrun hG3
      go_wp2_with (first | (refine wpList_is rfl _ _ (exec_oneRow _ ca pl.length cc rfl rfl) ?_) | (refine wpList_is rfl _ _ (exec_appendT 26 _ _ rfl rfl rfl RUN.out) ?_) | fail)
      go_roundw
      case rel => exact ⟨i + 1, a', c', by omega, by go_num, rfl, HG3⟩
      case measure => simp [intOf]; omega
    · have hin : i = n - 1 := by omega
      have LT := hid (show (dataL d n).take i = dataL d n by rw [List.take_of_length_le]; rw [DLn.out]; omega)
      rw [LT.out] at HG
      obtain ⟨rs, hrs, hR⟩ := HG.out.rs
      have hX := rxor_any wr _ rs hR (by have := congrArg List.length hrs; simp [raws] at this; rw [this, DLn.out]; omega) (by rw [hrs]; have := LONG.out; omega)
      rw [hrs] at hX
      have HX := hid hX
      have XL := hid (show (xorL (dataL d n)).length ≤ 400 by rw [xorL_length]; exact LONG.out)
      have LD := hid (show (dataL d n).length = i by rw [DLn.out]; omega)
      have TKx := hid (show dataL d n ++ [xorL (dataL d n)] = rowsL d n from rfl)
      obtain ⟨xl, hxl⟩ : ∃ x, x = xorL (dataL d n) := ⟨_, rfl⟩
      rw [← hxl] at HX XL TKx
      have HIN := hid hin
      have hlt' : ¬ ((i : Int) < (n : Int) - 1) := by omega
      clear hX hR hrs hxl hin hlt
      go_wp2_with fail
      refine HX.out.mono ?_
      clear HX
      rintro e w2 ⟨xa, xc, rfl, xr, xn, xk⟩
      obtain ⟨a', c', w3, hrun, hG3⟩ := HG.out.step xk xr (fun ad m c he => by
        injection he with he _ _
        exact xn ad he) (by have := XL.out; omega) (by rw [LD.out]; omega)
      rw [LD.out] at hrun hG3
      rw [TKx.out] at hG3
      have RUN := hid hrun
      have HG3 := hid hG3
      have hn1 : i + 1 = n := by have := HIN.out; omega
      rw [hn1] at HG3 RUN
      clear xr xn xk hrun hG3 hn1
      go_wp2_with (first | (refine wpList_is rfl _ _ (exec_oneRow _ xa xl.length xc rfl rfl) ?_) | (refine wpList_is rfl _ _ (exec_appendT 26 _ _ rfl rfl rfl RUN.out) ?_) | fail)
      go_ret
      exact ⟨a', c', rfl, HG3.out⟩
end Go.Proofs.Ytoglcohdanpciaa


/- layout: the reference's Cut. -/
namespace Go.Proofs.Ytoglcohdanpciaa
open Go.RowKit Go.Shelf
set_option maxRecDepth 100000
set_option linter.unusedSimpArgs false
set_option linter.unusedVariables false

theorem buildRHd4 (s : Spe) (i n z : Int) (w : World) : (Instr.build 46 #[(0, .agg #[.int .i64 s.c, .int .i64 s.l, .int .i64 s.n]), (1, .int .i64 i), (2, .int .i64 n), (3, .int .i64 z)]).run Try.prog w = .ok (hdV13 ⟨s, i, n, z⟩) w := by kernel_rfl
theorem exec_buildRHd4 {ρ : Operand → Value} {o : Oper} {w : World} (x0 x1 x2 x3 : Operand) (ho : o.op = .build 46 #[(0, x0), (1, x1), (2, x2), (3, x3)]) (s : Spe) (i n z : Int) (h0 : ρ x0 = .agg #[.int .i64 s.c, .int .i64 s.l, .int .i64 s.n]) (h1 : ρ x1 = .int .i64 i) (h2 : ρ x2 = .int .i64 n) (h3 : ρ x3 = .int .i64 z) :
    (execOp ρ o).run Try.prog w = .ok (.value (hdV13 ⟨s, i, n, z⟩)) w := by
  simp only [execOp, ho, List.map_toArray, List.map_cons, List.map_nil, h0, h1, h2, h3, Sem.run_bind, buildRHd4, Result.andThen_ok, Sem.run_pure]
theorem GrowAt.slice {w0 w : World} {v : Value} {ls : List (List Int)} (h : GrowAt w0 w v ls) (hn : 0 < ls.length) : ∃ g c, v = .slice (some ⟨g, 0, none⟩) ls.length c ∧ w0.heap.size ≤ g ∧ g < w.heap.size := by
  obtain ⟨vs, ho, _, _⟩ := h.own
  rcases ho.2 with ⟨h', h0⟩ | ⟨g, cap', cur, rfl, _⟩
  · omega
  · exact ⟨g, cap', rfl, (ho.lt g rfl).1, (ho.lt g rfl).2⟩
theorem GrowAt.later {w0 w w' : World} {v : Value} {ls : List (List Int)} (h : GrowAt w0 w v ls) (k : Keeps [] w w') : GrowAt w0 w' v ls := by
  obtain ⟨vs, ho, hl, hr⟩ := h.own
  exact ⟨⟨vs, own_keeps ho k, hl, fun j hj => ⟨(hr j hj).1.keep k (by intro _ _ _ _ _; simp), (hr j hj).2⟩⟩, h.few, h.kept.trans k⟩
theorem GrowAt.cell {w0 w : World} {g c : Nat} {ls : List (List Int)} (h : GrowAt w0 w (.slice (some ⟨g, 0, none⟩) ls.length c) ls) {k : Nat} (hk : k < ls.length) : ∃ a d, w.cell? ⟨g, k, none⟩ = some (.slice a (ls.getD k []).length d) ∧ w.frozen? ⟨g, k, none⟩ = false ∧ RowAt w (.slice a (ls.getD k []).length d) (ls.getD k []) := by
  obtain ⟨vs, ho, hl, hr⟩ := h.own
  have hv : k < vs.length := by omega
  have hc := ho.cellAt k (by omega)
  rw [List.getElem?_eq_getElem hv] at hc
  have hrow := (hr k hv).1
  obtain ⟨a, d, e, _⟩ := id hrow
  rw [e] at hc hrow
  exact ⟨a, d, hc, ho.frozenAt k, hrow⟩
theorem GrowAt.put {w0 w w1 : World} {g c : Nat} {ls : List (List Int)} {r : Value} {zs : List Int} (h : GrowAt w0 w (.slice (some ⟨g, 0, none⟩) ls.length c) ls) {k : Nat} (hk : k < ls.length) (kk : Keeps [] w w1) (hr : RowAt w1 r zs) (hnew : ∀ ad m c, r = .slice (some ad) m c → w.heap.size ≤ ad.block) (hl : zs.length ≤ 140737488351232) :
    GrowAt w0 (w1.setCell ⟨g, k, none⟩ r) (.slice (some ⟨g, 0, none⟩) ls.length c) (ls.set k zs) := by
  obtain ⟨vs, ho, hlv, hrow⟩ := h.own
  have hg := ho.lt g rfl
  have hoff : Off [g] r zs := fun ad m c he hne hm => by
    have h1 := hnew ad m c he
    simp at hm
    omega
  have e : (Value.slice (some ⟨g, 0, none⟩) ls.length c).ownBlock.toList = [g] := rfl
  refine ⟨⟨vs.set k r, ?_, by simp [hlv], fun j hj => ?_⟩, fun l hl' => ?_, (h.kept.trans kk).trans' set_keep (fun j hj hm => by simp at hm; omega)⟩
  · rw [List.length_set]
    exact ((own_keeps ho kk).stored k r).1
  · have hj' : j < vs.length := by simpa using hj
    rw [List.getElem_set, getD_set13 (by omega), e]
    by_cases e' : k = j
    · rw [if_pos e', if_pos e']
      exact ⟨hr.keep set_keep hoff, hoff⟩
    · rw [if_neg e', if_neg e']
      obtain ⟨q1, q2⟩ := hrow j hj'
      rw [e] at q2
      exact ⟨(q1.keep kk (by intro _ _ _ _ _; simp)).keep set_keep q2, q2⟩
  · rcases List.mem_or_eq_of_mem_set hl' with h1 | h1
    · exact h.few l h1
    · rw [h1]; exact hl
/-- Rows of which the first are fragments already. -/
def curL (s : Spe) (d : List Int) (n i : Nat) : List (List Int) := (List.range n).map fun j => if j < i then fragL s n d.length (rowsL d n) j else (rowsL d n).getD j []
theorem cur_len (s : Spe) (d : List Int) (n i : Nat) : (curL s d n i).length = n := by simp [curL]
theorem cur_at {s : Spe} {d : List Int} {n i j : Nat} (h : j < (curL s d n i).length) : (curL s d n i)[j] = if j < i then fragL s n d.length (rowsL d n) j else (rowsL d n).getD j [] := by simp [curL]
theorem cur_zero {s : Spe} {d : List Int} {n : Nat} (h3 : 3 ≤ n) : curL s d n 0 = rowsL d n := by
  apply List.ext_getElem
  · rw [cur_len, rowsL_len h3]
  · intro j h1 h2
    rw [cur_at, if_neg (by omega), List.getD_eq_getElem?_getD, List.getElem?_eq_getElem h2]
    rfl
theorem cur_all (s : Spe) (d : List Int) (n : Nat) : curL s d n n = fragsL s d n := by
  unfold curL fragsL
  apply List.map_congr_left
  intro j hj
  rw [if_pos (by simpa using hj)]
theorem cur_get {s : Spe} {d : List Int} {n i : Nat} (hi : i < n) : (curL s d n i).getD i [] = (rowsL d n).getD i [] := by
  rw [List.getD_eq_getElem?_getD, List.getElem?_eq_getElem (by rw [cur_len]; exact hi), Option.getD_some, cur_at, if_neg (by omega)]
theorem cur_set {s : Spe} {d : List Int} {n i : Nat} : (curL s d n i).set i (headB13 ⟨s, i, n, d.length⟩ ++ (rowsL d n).getD i []) = curL s d n (i + 1) := by
  apply List.ext_getElem
  · simp [cur_len]
  · intro j h1 h2
    rw [List.getElem_set, cur_at, cur_at]
    by_cases e : i = j
    · subst e
      rw [if_pos rfl, if_pos (by omega)]
      rfl
    · rw [if_neg e]
      by_cases h : j < i
      · rw [if_pos h, if_pos (by omega)]
      · rw [if_neg h, if_neg (by omega)]
/-- append of bytes onto a row of one's own. -/
theorem append_b13 {w : World} {B : Nat} {v : Value} {zs es : List Int} (h : w.ownsRow B 5 1 v zs.length (zs.map (Value.int .u8))) (A : Option Addr) (n c : Nat) (hs : RowAt w (.slice A n c) es) (hl : zs.length + es.length ≤ 100000) (hB : B ≤ w.heap.size) (hzb : ∀ z ∈ zs, 0 ≤ z ∧ z ≤ 255) :
    ∃ a' c' w', (Builtin.append_ #[34, 34] 34 #[v, .slice A n c]).run Try.prog w = .ok (.slice a' (zs ++ es).length c') w' ∧ RowAt w' (.slice a' (zs ++ es).length c') (zs ++ es) ∧ (∀ ad, a' = some ad → B ≤ ad.block) ∧ Keeps v.ownBlock.toList w w' := by
  obtain ⟨i, hi, hz, hz3, hz40⟩ := info_parts info5
  obtain ⟨a0, c0, hv0, h1, h2, h0, hb, h4⟩ := id hs
  injection hv0 with e1 e2 e3
  subst e1; subst e2; subst e3
  obtain ⟨a', c', w', hr, ho, hg⟩ := run_append_src (P := Try.prog) w B 34 34 5 i _ 1 Try.underlying34 hi hz hz3 hz40 rfl v zs.length (zs.map (Value.int .u8)) h A es.length c (es.map (Value.int .u8)) (by simp) h0 h1 h4 (by
    intro u hu
    obtain ⟨z, _, rfl⟩ := List.mem_map.1 hu
    rfl) (by unfold maxLen; omega) (by omega) hB
  have e : zs.length + es.length = (zs ++ es).length := by simp
  rw [e, ← List.map_append] at ho
  rw [e] at hr
  refine ⟨a', c', w', hr, row_of_own ho (fun z hz => ?_), own_lo ho, (Keeps.refl _ _).grown hg (by intro g e; left; simp [e])⟩
  rcases List.mem_append.1 hz with hz | hz
  · exact hzb z hz
  · exact hb z hz
end Go.Proofs.Ytoglcohdanpciaa


/- layout: the reference's Cut, walked. -/
namespace Go.Proofs.Ytoglcohdanpciaa
open Go.RowKit Go.Shelf
set_option maxRecDepth 100000
set_option linter.unusedSimpArgs false
set_option linter.unusedVariables false

def RCutPost (w : World) (r : List (List Int) × Int) (e : Ending) (w' : World) : Prop :=
  Keeps [] w w' ∧ ∃ a c, e = .returned (.tuple #[.slice a r.1.length c, .int .i64 r.2]) ∧ RsAt w' (.slice a r.1.length c) r.1
theorem rcut_no {w w' : World} {r : List (List Int) × Int} {x : Int} (hr : r = ([], x)) (k : Keeps [] w w') : RCutPost w r (.returned (.tuple #[.slice none 0 0, .int .i64 x])) w' := by
  subst hr
  exact ⟨k, none, 0, rfl, (GrowAt.start w').rs⟩
set_option maxHeartbeats 12800000 in
theorem rCut_any (w : World) (s : Spe) (v : Value) (d : List Int) (n : Int) (hd : RowAt w v d) (hl : d.length ≤ 140737488351232) :
    Calls Try.prog 22 #[.agg #[.int .i64 s.c, .int .i64 s.l, .int .i64 s.n], v, .int .i64 n] w (RCutPost w (cutL s d n)) := by
  obtain ⟨va, vc, rfl, _⟩ := id hd
  obtain ⟨r, hr⟩ : ∃ r, r = cutL s d n := ⟨_, rfl⟩
  rw [← hr]
  unfold cutL at hr
  have HR := hid hr
  clear hr
  obtain ⟨w0, hw0⟩ : ∃ x, x = w.alloc (.cells #[.int .i64 s.c, .int .i64 s.l, .int .i64 s.n] 30) := ⟨_, rfl⟩
  have HW0 := hid hw0
  have k0 : Keeps [] w w0 := by rw [hw0]; exact (Keeps.refl [] _).alloc _
  have K0 := hid k0
  have G0 := hid (show w0.rangeAt w.heap.size 0 s.cells by rw [hw0]; exact range_cells (heap_alloc_new w _))
  have HD0 := hid (hd.keep k0 (by intro _ _ _ _ _; simp))
  clear hw0 k0 hd
  cases hm : maySv n with
  | false =>
    have HM := hid hm
    clear hm
    go_enter Try.func22, Try.ntmps22
    go_wp2_with fail
    rw [← HW0.out]
    refine (rmayn_as _ n false HM.out).mono ?_
    rintro e w' ⟨rfl, rfl⟩
    go_wp2_with fail
    go_ret2
    exact rcut_no (by rw [HR.out, HM.out, if_neg (by simp)]) K0.out
  | true =>
    have HM := hid hm
    obtain ⟨n3, n16⟩ := maySv_is.1 hm
    clear hm
    cases he : mayE s with
    | false =>
      have HE := hid he
      clear he
      go_enter Try.func22, Try.ntmps22
      go_wp2_with fail
      rw [← HW0.out]
      refine (rmayn_as _ n true HM.out).mono ?_
      rintro e w' ⟨rfl, rfl⟩
      go_wp2_with (first | (refine wpList_isW rfl _ _ (exec_load _ _ _ _ rfl rfl (loadSpe _ w.heap.size 0 s G0.out)) ?_) | fail)
      refine (rMayStripe_any _ s.c s.l s.n false HE.out).mono ?_
      rintro e w4 ⟨rfl, k4⟩
      have K4 := hid (K0.out.trans k4)
      clear k4
      go_wp2_with fail
      go_ret2
      exact rcut_no (by rw [HR.out, HE.out, if_neg (by simp)]) K4.out
    | true =>
      have HE := hid he
      clear he
      obtain ⟨m, rfl⟩ := Int.eq_ofNat_of_zero_le (show 0 ≤ n by omega)
      have n3' : 3 ≤ m := by omega
      have n16' : m ≤ 16 := by omega
      clear n3 n16
      by_cases hbig : 400 * ((m : Int) - 1) < (d.length : Int)
      · go_enter Try.func22, Try.ntmps22
        go_wp2_with fail
        rw [← HW0.out]
        refine (rmayn_as _ (m : Int) true HM.out).mono ?_
        rintro e w' ⟨rfl, rfl⟩
        go_wp2_with (first | (refine wpList_isW rfl _ _ (exec_load _ _ _ _ rfl rfl (loadSpe _ w.heap.size 0 s G0.out)) ?_) | fail)
        refine (rMayStripe_any _ s.c s.l s.n true HE.out).mono ?_
        rintro e w4 ⟨rfl, k4⟩
        have K4 := hid (K0.out.trans k4)
        clear k4
        go_wp2_with fail
        go_ret2
        exact rcut_no (by rw [HR.out, HM.out, HE.out, if_pos ⟨rfl, rfl⟩, if_pos hbig]) K4.out
      · have hb' : ¬ (400 * ((m : Int) - 1) < (d.length : Int)) := hbig
        have hRF : r = (fragsL s d m, 0) := by rw [HR.out, HM.out, HE.out, if_pos ⟨rfl, rfl⟩, if_neg hbig]; rfl
        have HRF := hid hRF
        have HMOST := hid (show d.length ≤ 400 * (m - 1) by omega)
        clear hbig hRF HR
        go_enter Try.func22, Try.ntmps22
        go_wp2_with fail
        rw [← HW0.out]
        refine (rmayn_as _ (m : Int) true HM.out).mono ?_
        rintro e w' ⟨rfl, rfl⟩
        go_wp2_with (first | (refine wpList_isW rfl _ _ (exec_load _ _ _ _ rfl rfl (loadSpe _ w.heap.size 0 s G0.out)) ?_) | fail)
        refine (rMayStripe_any _ s.c s.l s.n true HE.out).mono ?_
        rintro e w4 ⟨rfl, k4⟩
        have K4 := hid (K0.out.trans k4)
        have G4 := hid (show w4.rangeAt w.heap.size 0 s.cells from fun i u hu => k4.cell (G0.out i u hu) (by simp))
        have HD4 := hid (HD0.out.keep k4 (by intro _ _ _ _ _; simp))
        clear k4
        go_wp2_with fail
        refine (rParts_any w4 _ d m HD4.out n3' n16' HMOST.out).mono ?_
        rintro e w5 ⟨a, c, rfl, hg5⟩
        have e5 : curL s d m 0 = rowsL d m := cur_zero n3'
        rw [← e5] at hg5
        have HG5 := hid hg5
        obtain ⟨g, c', he', hlo, hhi⟩ := hg5.slice (by rw [cur_len]; omega)
        injection he' with he1 hex he2
        clear hex
        subst he1; subst he2
        clear hg5 e5
        have LW := hid (show w.heap.size < w4.heap.size from World.block_lt_of_cell? _ _ (G4.out 0 _ rfl))
        have GLO := hid hlo
        clear hlo hhi
        go_wp2_with fail
        go_loopw [9] (fun iv wr => ∃ (i : Nat), i ≤ m ∧ iv = .int .i64 (i : Int) ∧ Hid (GrowAt w4 wr (.slice (some ⟨g, 0, none⟩) m c) (curL s d m i))) (fun iv _ => m - (intOf iv).toNat)
        case atStart => exact ⟨0, by omega, rfl, HG5⟩
        case round =>
          obtain ⟨i, hi, rfl, HG⟩ := hrel
          by_cases hlt : i < m
          · have hgl : GrowAt w4 wr (.slice (some ⟨g, 0, none⟩) (curL s d m i).length c) (curL s d m i) := by rw [cur_len]; exact HG.out
            have HGL := hid hgl
            obtain ⟨xa, xc, x1, x2, x3⟩ := hgl.cell (k := i) (by rw [cur_len]; exact hlt)
            rw [cur_get hlt] at x1 x3
            have CS := hid (cur_set (s := s) (d := d) (n := m) (i := i))
            have RLN := hid (show ((rowsL d m).getD i []).length ≤ 400 by
              rw [rows_len_at n3' hlt]
              exact Nat.le_trans (longN_le _ _ _) (eN_most HMOST.out))
            have HFIT := hid (fitH_of (i := i) (n := m) (z := d.length) HE.out (small_of n3' n16' hlt HMOST.out))
            obtain ⟨rl, hrl⟩ : ∃ x, x = (rowsL d m).getD i [] := ⟨_, rfl⟩
            rw [← hrl] at x1 x3 CS RLN
            have X1 := hid x1
            have X2 := hid x2
            have X3 := hid x3
            have SGr := hid (show wr.rangeAt w.heap.size 0 s.cells from fun i u hu => HG.out.kept.cell (G4.out i u hu) (by simp))
            have LBS := hid (show w.heap.size < wr.heap.size from World.block_lt_of_cell? _ _ (SGr.out 0 _ rfl))
            have LBG := hid (show g < wr.heap.size from World.block_lt_of_cell? _ _ x1)
            have fS := hid (show ∀ W1, KpS [] wr.heap.size wr.drew W1 → W1.rangeAt w.heap.size 0 s.cells from fun W1 h i v hv => h.cell (by rw [World.cell?_drew]; exact SGr.out i v hv) LBS.out (by simp))
            have fC := hid (show ∀ W1, KpS [] wr.heap.size wr.drew W1 → W1.cell? ⟨g, i, none⟩ = some (.slice xa rl.length xc) from fun W1 h => h.cell (by rw [World.cell?_drew]; exact X1.out) LBG.out (by simp))
            clear x1 x2 x3 hgl hrl
            go_wp2_with fail
            refine wp_region_any (by kernel_rfl) (wpAny_of_late (late := [15]) (S := KpS [] wr.heap.size wr.drew) _ _ _ _ ?_)
            change wpAnyT _ _ _ _ _ _ _ _ _ wr.drew
            have s0 : KpS [] wr.heap.size wr.drew wr.drew := KpS.refl _ _ _
            refine late_take (i := 0) (v := .slice (some ⟨g, 0, none⟩) m c) rfl (by kernel_rfl) (by kernel_rfl) (by kernel_rfl) (by kernel_rfl) (by kernel_rfl) (fun _ _ _ h => h) rfl (fun W1 hW1 => by go_simp) (KpS.refl _ _ _) ?_
            simp only [Act.put, List.setIfInBounds_toArray, List.set_cons_zero, List.set_cons_succ]
            refine late_take (i := 1) (v := .int .i64 (i : Int)) rfl (by kernel_rfl) (by kernel_rfl) (by kernel_rfl) (by kernel_rfl) (by kernel_rfl) (fun _ _ _ h => h) rfl (fun W1 hW1 => by go_simp) (KpS.refl _ _ _) ?_
            simp only [Act.put, List.setIfInBounds_toArray, List.set_cons_zero, List.set_cons_succ]
            refine late_take (i := 2) (v := .agg #[.int .i64 s.c, .int .i64 s.l, .int .i64 s.n]) rfl (by kernel_rfl) (by kernel_rfl) (by kernel_rfl) (by kernel_rfl) (by kernel_rfl) (fun _ _ _ h => h) rfl (fun W1 hW1 => exec_load _ _ _ _ rfl rfl (loadSpe W1 w.heap.size 0 s (fS.out W1 hW1))) (KpS.refl _ _ _) ?_
            simp only [Act.put, List.setIfInBounds_toArray, List.set_cons_zero, List.set_cons_succ]
            refine late_take (i := 3) (v := .int .i64 (i : Int)) rfl (by kernel_rfl) (by kernel_rfl) (by kernel_rfl) (by kernel_rfl) (by kernel_rfl) (fun _ _ _ h => h) rfl (fun W1 hW1 => by go_simp) (KpS.refl _ _ _) ?_
            simp only [Act.put, List.setIfInBounds_toArray, List.set_cons_zero, List.set_cons_succ]
            refine late_take (i := 4) (v := .int .i64 (m : Int)) rfl (by kernel_rfl) (by kernel_rfl) (by kernel_rfl) (by kernel_rfl) (by kernel_rfl) (fun _ _ _ h => h) rfl (fun W1 hW1 => by go_simp) (KpS.refl _ _ _) ?_
            simp only [Act.put, List.setIfInBounds_toArray, List.set_cons_zero, List.set_cons_succ]
            refine late_take (i := 5) (v := .slice va d.length vc) rfl (by kernel_rfl) (by kernel_rfl) (by kernel_rfl) (by kernel_rfl) (by kernel_rfl) (fun _ _ _ h => h) rfl (fun W1 hW1 => by go_simp) (KpS.refl _ _ _) ?_
            simp only [Act.put, List.setIfInBounds_toArray, List.set_cons_zero, List.set_cons_succ]
            refine late_take (i := 6) (v := .int .i64 (d.length : Int)) rfl (by kernel_rfl) (by kernel_rfl) (by kernel_rfl) (by kernel_rfl) (by kernel_rfl) (fun _ _ _ h => h) rfl (fun W1 hW1 => by go_simp) (KpS.refl _ _ _) ?_
            simp only [Act.put, List.setIfInBounds_toArray, List.set_cons_zero, List.set_cons_succ]
            refine late_take (i := 7) (v := hdV13 ⟨s, i, m, d.length⟩) rfl (by kernel_rfl) (by kernel_rfl) (by kernel_rfl) (by kernel_rfl) (by kernel_rfl) (fun _ _ _ h => h) rfl (fun W1 hW1 => exec_buildRHd4 _ _ _ _ rfl s i m d.length rfl rfl rfl rfl) (KpS.refl _ _ _) ?_
            simp only [Act.put, List.setIfInBounds_toArray, List.set_cons_zero, List.set_cons_succ]
            refine late_take (i := 9) (v := .slice (some ⟨g, 0, none⟩) m c) rfl (by kernel_rfl) (by kernel_rfl) (by kernel_rfl) (by kernel_rfl) (by kernel_rfl) (fun _ _ _ h => h) rfl (fun W1 hW1 => by go_simp) (KpS.refl _ _ _) ?_
            simp only [Act.put, List.setIfInBounds_toArray, List.set_cons_zero, List.set_cons_succ]
            refine late_take (i := 10) (v := .int .i64 (i : Int)) rfl (by kernel_rfl) (by kernel_rfl) (by kernel_rfl) (by kernel_rfl) (by kernel_rfl) (fun _ _ _ h => h) rfl (fun W1 hW1 => by go_simp) (KpS.refl _ _ _) ?_
            simp only [Act.put, List.setIfInBounds_toArray, List.set_cons_zero, List.set_cons_succ]
            refine late_take (i := 11) (v := .pointer (some ⟨g, i, none⟩)) rfl (by kernel_rfl) (by kernel_rfl) (by kernel_rfl) (by kernel_rfl) (by kernel_rfl) (fun _ _ _ h => h) rfl (fun W1 hW1 => by go_simp) (KpS.refl _ _ _) ?_
            simp only [Act.put, List.setIfInBounds_toArray, List.set_cons_zero, List.set_cons_succ]
            refine late_take (i := 12) (v := .slice xa rl.length xc) rfl (by kernel_rfl) (by kernel_rfl) (by kernel_rfl) (by kernel_rfl) (by kernel_rfl) (fun _ _ _ h => h) rfl (fun W1 hW1 => exec_load _ _ _ _ rfl rfl (run_loadCell W1 _ _ _ (fC.out W1 hW1) (agg_no _ (by kernel_rfl)))) (KpS.refl _ _ _) ?_
            simp only [Act.put, List.setIfInBounds_toArray, List.set_cons_zero, List.set_cons_succ]
            refine late_do (i := 8) (by kernel_rfl) rfl rfl (wp_enter (f := 67) (args := #[hdV13 ⟨s, i, m, d.length⟩]) (by go_simp) (rhead_any wr.drew ⟨s, i, m, d.length⟩ HFIT.out) ?_)
            rintro e w7 ⟨ha, hc, rfl, ho, hk⟩
            have kp7 : KpS [] wr.heap.size wr.drew w7 := KpS.keeps s0 hk (Nat.le_refl _) (by simp)
            refine ⟨_, rfl, Or.inr kp7, ?_⟩
            simp only [Act.put, List.setIfInBounds_toArray, List.set_cons_zero, List.set_cons_succ]
            have hk' : Keeps [] wr w7 := (Keeps.refl [] wr).drew.trans hk
            have x37 := X3.out.keep hk' (by intro _ _ _ _ _; simp)
            have hkL : (headB13 ⟨s, i, m, d.length⟩).length = 12 := headB13_len _
            obtain ⟨a8, c8, w8, hrun, hrow8, hnew8, hk8⟩ := append_b13 (w := w7) (B := wr.heap.size) ho xa rl.length xc x37 (by have := RLN.out; omega) hk'.size (headB13_byte _)
            have hown : ∀ b, (Value.slice ha (headB13 ⟨s, i, m, d.length⟩).length hc).ownBlock = some b → wr.heap.size ≤ b := fun b hb => (ho.lt b hb).1
            have hk8' : Keeps [] wr w8 := hk'.trans' hk8 (fun j hj hm => by
              have := hown j (by simpa using hm)
              omega)
            have kp8 : KpS [] wr.heap.size wr.drew w8 := KpS.keeps kp7 hk8 hk'.size (fun j hj hlt2 => absurd (hown j (by simpa using hj)) (by omega))
            have hfl : (headB13 ⟨s, i, m, d.length⟩ ++ rl).length ≤ 1000 := by rw [List.length_append, hkL]; have := RLN.out; omega
            obtain ⟨fr, hfr⟩ : ∃ x, x = headB13 ⟨s, i, m, d.length⟩ ++ rl := ⟨_, rfl⟩
            have CS' := CS.out
            rw [← hfr] at hrun hrow8 hfl CS'
            clear hfr
            refine late_do (i := 13) (by kernel_rfl) rfl rfl (wp_value (exec_appendT 34 _ _ rfl rfl rfl hrun) ?_)
            refine ⟨Or.inr kp8, ?_⟩
            simp only [Act.put, List.setIfInBounds_toArray, List.set_cons_zero, List.set_cons_succ]
            refine late_take (i := 14) (v := .pointer (some ⟨g, i, none⟩)) rfl (by kernel_rfl) (by kernel_rfl) (by kernel_rfl) (by kernel_rfl) (by kernel_rfl) (fun _ _ _ h => h) rfl (fun W1 hW1 => by go_simp) (kp8) ?_
            simp only [Act.put, List.setIfInBounds_toArray, List.set_cons_zero, List.set_cons_succ]
            have hc8 := hk8'.cell X1.out (by simp)
            have hf8 : w8.frozen? ⟨g, i, none⟩ = false := by
              obtain ⟨_, _, _, hf, _⟩ := (HGL.out.later hk8').cell (k := i) (by rw [cur_len]; exact hlt)
              exact hf
            refine late_do (i := 15) (by kernel_rfl) rfl rfl (wp_stored (w' := w8.setCell ⟨g, i, none⟩ (.slice a8 fr.length c8)) (by go_simp) ⟨Or.inl rfl, ?_⟩)
            simp only [Act.put, List.setIfInBounds_toArray, List.set_cons_zero, List.set_cons_succ]
            refine wpAnyT_done (by kernel_rfl) ?_ _
            have hput := HGL.out.put (k := i) (by rw [cur_len]; exact hlt) hk8' hrow8 (fun ad m2 c2 he => by
              injection he with he _ _
              exact hnew8 ad he) (by omega)
            rw [CS', cur_len] at hput
            have HPUT := hid hput
            clear hput hc8 hf8 hk8' hown hrun hrow8 hnew8 hk8 hkL x37 hk' kp7 kp8 s0 hk ho CS' hfl
            go_wp2_with fail
            go_roundw
            case rel => exact ⟨i + 1, by omega, by go_num, HPUT⟩
            case measure => simp [intOf]; omega
          · have hin : m = i := by omega
            have HIN := hid hin
            have hlt' : ¬ ((i : Int) < (m : Int)) := by omega
            clear hin hlt
            go_wp2_with fail
            go_ret2
            have HG' := HG.out
            rw [← HIN.out, cur_all] at HG'
            rw [HRF.out]
            refine ⟨K4.out.trans HG'.kept, some ⟨g, 0, none⟩, c, by rw [fragsL_len]; rfl, ?_⟩
            have := HG'.rs
            rw [fragsL_len]
            exact this
end Go.Proofs.Ytoglcohdanpciaa


/- layout: the laws' Rows: rows that are the same. -/
namespace Go.Proofs.Ytoglcohdanpciaa
open Go.RowKit Go.Shelf
set_option maxRecDepth 100000
set_option linter.unusedSimpArgs false
set_option linter.unusedVariables false

set_option maxHeartbeats 6400000 in
theorem lRowsB_any (w : World) (v u : Value) (ls : List (List Int)) (hv : RsAt w v ls) (hu : RsAt w u ls) (hfew : ∀ l ∈ ls, l.length ≤ 35184372088832) (hlen : ls.length ≤ 1000) :
    Calls Try.prog 24 #[v, u] w fun e w' => e = .returned (.bool true) ∧ ∃ n, w' = w.drewN n := by
  obtain ⟨a, c, rfl⟩ : ∃ a c, v = .slice a ls.length c := by obtain ⟨rs, rfl, ⟨a, c, e, _⟩⟩ := hv; exact ⟨a, c, by rw [e]; simp [raws]⟩
  obtain ⟨b, c2, rfl⟩ : ∃ a c, u = .slice a ls.length c := by obtain ⟨rs, rfl, ⟨a, c, e, _⟩⟩ := hu; exact ⟨a, c, by rw [e]; simp [raws]⟩
  have HV := hid hv
  have HU := hid hu
  have HFW := hid hfew
  clear hv hu hfew
  go_enter Try.func24, Try.ntmps24
  go_wp2_with fail
  go_loopw [5] (fun iv wr => ∃ (i q : Nat), i ≤ ls.length ∧ iv = .int .i64 (i : Int) ∧ wr = w.drewN q) (fun iv _ => ls.length - (intOf iv).toNat)
  case atStart => exact ⟨0, 0, by omega, rfl, rfl⟩
  case round =>
    obtain ⟨i, q, hi, rfl, hwr⟩ := hrel
    have HWR := hid hwr
    have kq : Keeps [] w wr := by rw [hwr]; exact (Keeps.refl [] w).drewN q
    by_cases hlt : i < ls.length
    · obtain ⟨g1, o1, p1, x1, e1, d1, r1, l1, _⟩ := (HV.out.keep kq).at hlt
      obtain ⟨g2, o2, p2, x2, e2, d2, r2, l2, _⟩ := (HU.out.keep kq).at hlt
      injection e1 with e1 _ e1'
      injection e2 with e2 _ e2'
      subst e1; subst e1'; subst e2; subst e2'
      have hll : (ls.getD i []).length ≤ 35184372088832 := by
        rw [List.getD_eq_getElem?_getD, List.getElem?_eq_getElem hlt]
        exact HFW.out _ (List.getElem_mem hlt)
      obtain ⟨y1, z1, rfl⟩ : ∃ a c, x1 = .slice a (ls.getD i []).length c := by obtain ⟨a, c, e, _⟩ := r1; exact ⟨a, c, e⟩
      obtain ⟨y2, z2, rfl⟩ : ∃ a c, x2 = .slice a (ls.getD i []).length c := by obtain ⟨a, c, e, _⟩ := r2; exact ⟨a, c, e⟩
      obtain ⟨xl, hxl⟩ : ∃ x, x = ls.getD i [] := ⟨_, rfl⟩
      rw [← hxl] at d1 d2 r1 r2 hll
      have SMQ : Hid (∀ k, Calls Try.prog 29 #[.slice y1 xl.length z1, .slice y2 xl.length z2] (wr.drewN k) fun e w'' => e = .returned (.bool true) ∧ ∃ m', w'' = wr.drewN m') := hid fun k => by
        have kk := (Keeps.refl [] wr).drewN k
        refine (same_any _ _ _ xl xl (r1.keep kk (by intro _ _ _ _ _; simp)) (r2.keep kk (by intro _ _ _ _ _; simp)) hll hll).mono ?_
        rintro e w' ⟨rfl, x, rfl⟩
        exact ⟨by rw [decide_eq_true rfl], k + x, by rw [World.drewN_drewN]⟩
      clear hxl r1 r2 hll l1 l2 hwr
      go_wp2_with fail
      go_quiet ((go_at_call 29; exact SMQ.out _))
      go_wp2_with fail
      go_roundw
      case rel => exact ⟨i + 1, q + nq, by omega, by go_num, by rw [HWR.out, World.drewN_drewN]⟩
      case measure => simp [intOf]; omega
    · have hlt' : ¬ ((i : Int) < (ls.length : Int)) := by omega
      clear hwr
      go_wp2_with fail
      go_ret
      exact ⟨rfl, q, HWR.out⟩
end Go.Proofs.Ytoglcohdanpciaa
