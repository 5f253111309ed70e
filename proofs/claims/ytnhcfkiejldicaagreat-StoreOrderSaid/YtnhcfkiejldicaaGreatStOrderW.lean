/- store: the walk of the law StoreOrder. -/
import Derived.Test.YtnhcfkiejldicaaGreatStOl
import Derived.Deep.MidRow
import Derived.Great.BuildSlice
import Derived.Deep.WholeRow
namespace Go.Proofs.YtnhcfkiejldicaaGreat
open Go.RowKit Go.Shelf
set_option maxRecDepth 100000
set_option linter.unusedSimpArgs false
set_option linter.unusedVariables false

theorem zero_ofO {t : TypeId} {z : Value} {n : Nat} (hi : (Tryz.prog.info? t).map (fun i => (i.zero, i.size)) = some (some z, n)) (w : World) : (zeroValue t).run Tryz.prog w = .ok z w := by
  cases hq : Tryz.prog.info? t with
  | none => simp [hq] at hi
  | some i => simp [hq] at hi; simp [zeroValue, typeInfo, hq, hi.1]
theorem size_ofO {t : TypeId} {z : Value} {n : Nat} (hi : (Tryz.prog.info? t).map (fun i => (i.zero, i.size)) = some (some z, n)) : (Tryz.prog.info? t).map (·.size) = some n := by
  cases hq : Tryz.prog.info? t with
  | none => simp [hq] at hi
  | some i => simp [hq] at hi; simp [hi.2]

theorem exec_allocO {ρ : Operand → Value} {o : Oper} {w : World} (t : TypeId) (zs : Array Value) {n : Nat} (hi : (Tryz.prog.info? t).map (fun i => (i.zero, i.size)) = some (some (.agg zs), n)) (ho : o.op = .alloc t) :
    (execOp ρ o).run Tryz.prog w = .ok (.value (.pointer (some ⟨w.heap.size, 0, none⟩))) (w.alloc (.cells zs t)) := by
  have e : (Value.agg zs).cells = zs := rfl
  simp only [execOp, ho, Instr.alloc, newVar, newRow, Sem.run_bind, zero_ofO hi, e, Result.andThen_ok, Sem.run_pure, run_newObj_alloc]
theorem exec_boxO {ρ : Operand → Value} {o : Oper} {w : World} (t : TypeId) (x : Operand) (zs : Array Value) (hx : ρ x = .agg zs) (ho : o.op = .box t x) :
    (execOp ρ o).run Tryz.prog w = .ok (.value (.pointer (some ⟨w.heap.size, 0, none⟩))) (w.alloc (.cells zs t)) := by
  have e : (Value.agg zs).cells = zs := rfl
  simp [execOp, ho, Instr.box, newVar, newRow, hx, e, Result.andThen]
theorem exec_storeNewO {ρ : Operand → Value} {o : Oper} {w : World} (t : TypeId) (x y : Operand) (ho : o.op = .store t x y) (W : World) (c c' : Array Value) (hw : w = W.alloc (.cells c t)) (hx : ρ x = .pointer (some ⟨W.heap.size, 0, none⟩))
    (hy : ρ y = .agg c') {z : Value} (hi : (Tryz.prog.info? t).map (fun i => (i.zero, i.size)) = some (some z, c'.size)) (hs : c.size = c'.size) (h1 : c'.all (·.oneCell') = true) :
    (execOp ρ o).run Tryz.prog w = .ok .skip (W.alloc (.cells c' t)) := by
  subst hw
  unfold execOp
  simp only [ho, hx, hy, run_storeAt_new W t c c' (size_ofO hi) hs h1, Sem.run_bind, Result.andThen_ok, Sem.run_pure]
theorem exec_storeMidO {ρ : Operand → Value} {o : Oper} {w : World} (t : TypeId) (x y : Operand) (ho : o.op = .store t x y) (b off : Nat) (cells : Array Value) (hx : ρ x = .pointer (some ⟨b, off, none⟩))
    (hy : ρ y = .agg cells) (ht : w.there b off cells.size) {z : Value} (hi : (Tryz.prog.info? t).map (fun i => (i.zero, i.size)) = some (some z, cells.size)) (h1 : cells.all (·.oneCell') = true) :
    (execOp ρ o).run Tryz.prog w = .ok .skip (w.setCells b off cells.toList) := by
  unfold execOp
  simp only [ho, hx, hy, run_storeAt_mid w b off t cells ht (size_ofO hi) h1, Sem.run_bind, Result.andThen_ok, Sem.run_pure]

section
variable {ops : Array Oper} {rest : List Oper} {o : Oper} {a : Act} {w : World} {Q : Exit → Act → World → Prop}
theorem wpList_novalO (hgd : o.guard = none) (w' : World) (hrun : (execOp a.eval o).run Tryz.prog w = .ok .skip w') (h : wpList Tryz.prog ops Q rest (a.put o.dst undef) w') : wpList Tryz.prog ops Q (o :: rest) a w := by
  refine wpList_plain hgd fun K hK => ?_
  unfold Oper.wp
  rw [hrun]
  exact hK _ _ h
/-- A guarded one that is wanted. -/
theorem wpList_isWO (hw : Region.wanted o (yielded ops a.tmps) = true) (v : Value) (w' : World) (hrun : (execOp a.eval o).run Tryz.prog w = .ok (.value v) w') (h : wpList Tryz.prog ops Q rest (a.put o.dst v) w') : wpList Tryz.prog ops Q (o :: rest) a w := by
  unfold wpList
  rw [if_pos hw]
  refine Or.inl ?_
  unfold Oper.wp
  rw [hrun, Oper.upon_value]
  exact h
end
theorem loadIdO (W : World) (b off : Nat) (x : Idn) (hc : W.rangeAt b off x.cells) : (Instr.loadAt 36 (.pointer (some ⟨b, off, none⟩))).run Tryz.prog W = .ok (idV x) W :=
  run_loadAt_mid W b off 36 x.cells _ hc Tryz.underlying36 rfl (by rw [sId]; rfl)
theorem wpList_loadIdO {ops : Array Oper} {rest : List Oper} {o : Oper} {a : Act} {w : World} {Q : Exit → Act → World → Prop} (hgd : o.guard = none) (X : Operand) (ho : o.op = .load 36 X) (b off : Nat) (hx : a.eval X = .pointer (some ⟨b, off, none⟩)) (x : Idn)
    (hc : w.rangeAt b off x.cells) (h : wpList Tryz.prog ops Q rest (a.put o.dst (idV x)) w) : wpList Tryz.prog ops Q (o :: rest) a w :=
  wpList_is hgd _ _ (exec_load _ _ _ _ ho hx (loadIdO w b off x hc)) h
theorem id_range {w : World} {b : Nat} {x : Idn} {T : TypeId} (h : w.heap[b]? = some (.cells (idA x) T (0, 0))) : w.rangeAt b 0 x.cells := fun j u hu => by
  rw [Nat.zero_add, cell_of_row w b j _ _ (0, 0) h]
  have : (idA x).toList = x.cells := rfl
  rw [← this] at hu
  simpa using hu
theorem iIdO : (Tryz.prog.info? 36).map (fun i => (i.zero, i.size)) = some (some (.agg (idA ⟨0, 0, 0, 0⟩)), 4) := iId
theorem id_there {w : World} {b : Nat} {x : Idn} {T : TypeId} (h : w.heap[b]? = some (.cells (idA x) T (0, 0))) : w.there b 0 4 := there_of h 0 4 (by simp [idA])
theorem id_put {w : World} {b : Nat} {x y : Idn} {T : TypeId} (h : w.heap[b]? = some (.cells (idA x) T (0, 0))) : (w.setCells b 0 (idA y).toList).heap[b]? = some (.cells (idA y) T (0, 0)) ∧ Keeps [b] w (w.setCells b 0 (idA y).toList) := by
  have e0 : w.setCells b 0 (idA y).toList = (((w.setCell ⟨b, 0, none⟩ (.int .i64 y.c)).setCell ⟨b, 1, none⟩ (.int .i64 y.l)).setCell ⟨b, 2, none⟩ (.int .i64 y.n)).setCell ⟨b, 3, none⟩ (.int .i64 y.i) := rfl
  have kk : ∀ (W : World) (i : Nat) (u : Value), Keeps [b] W (W.setCell ⟨b, i, none⟩ u) := fun W i u => (Keeps.refl [b] W).setCell (Or.inl (by simp)) _
  rw [e0]
  refine ⟨?_, (((kk _ _ _).trans (kk _ _ _)).trans (kk _ _ _)).trans (kk _ _ _)⟩
  have s0 : (w.setCell ⟨b, 0, none⟩ (.int .i64 y.c)).heap[b]? = some (.cells ((idA x).setIfInBounds 0 (.int .i64 y.c)) T (0, 0)) := heap_setCell_same _ _ _ _ _ _ h
  have s1 : ((w.setCell ⟨b, 0, none⟩ (.int .i64 y.c)).setCell ⟨b, 1, none⟩ (.int .i64 y.l)).heap[b]? = some (.cells (((idA x).setIfInBounds 0 (.int .i64 y.c)).setIfInBounds 1 (.int .i64 y.l)) T (0, 0)) := heap_setCell_same _ _ _ _ _ _ s0
  have s2 : (((w.setCell ⟨b, 0, none⟩ (.int .i64 y.c)).setCell ⟨b, 1, none⟩ (.int .i64 y.l)).setCell ⟨b, 2, none⟩ (.int .i64 y.n)).heap[b]? = some (.cells ((((idA x).setIfInBounds 0 (.int .i64 y.c)).setIfInBounds 1 (.int .i64 y.l)).setIfInBounds 2 (.int .i64 y.n)) T (0, 0)) := heap_setCell_same _ _ _ _ _ _ s1
  have s3 : ((((w.setCell ⟨b, 0, none⟩ (.int .i64 y.c)).setCell ⟨b, 1, none⟩ (.int .i64 y.l)).setCell ⟨b, 2, none⟩ (.int .i64 y.n)).setCell ⟨b, 3, none⟩ (.int .i64 y.i)).heap[b]? = some (.cells (((((idA x).setIfInBounds 0 (.int .i64 y.c)).setIfInBounds 1 (.int .i64 y.l)).setIfInBounds 2 (.int .i64 y.n)).setIfInBounds 3 (.int .i64 y.i)) T (0, 0)) := heap_setCell_same _ _ _ _ _ _ s2
  exact s3
set_option maxHeartbeats 51200000 in
theorem qOrder_any (w : World) (v : Value) (l : List Idn) (cl : Int) (hv : IdsIn w v l) : Calls Tryz.prog 4 #[v, .int .i64 cl] w fun e w' => e = .returned (.bool true) ∧ Keeps [] w w' := by
  have F := hv.few
  unfold maxLen at F
  obtain ⟨va, vc, rfl⟩ : ∃ a c, v = .slice a l.length c := by obtain ⟨a, c, e, _⟩ := hv; exact ⟨a, c, e⟩
  have HV := hid hv
  clear hv
  go_enter Tryz.func4, Tryz.ntmps4
  go_wp2_with fail
  refine (awake6_any w).mono ?_
  rintro e w0 ⟨rfl, k0⟩
  have V0 := hid (HV.out.keep k0)
  have K0 := hid k0
  clear k0 HV
  by_cases hfew : l.length ≤ 12
  case neg =>
    have d1 : decide ((12 : Int) < (l.length : Int)) = true := by simp; omega
    have d2 : decide (12 < l.length) = true := by simp; omega
    go_wp2_with fail
    go_ret
    exact ⟨rfl, K0.out⟩
  have d1 : decide ((12 : Int) < (l.length : Int)) = false := by simp; omega
  have d2 : decide (12 < l.length) = false := by simp; omega
  have HLEN := hid hfew
  go_wp2_with fail
  refine (newAt_any 97 (by omega) (by omega) w0).mono ?_
  rintro e w1 ⟨p, F1, rfl, d1', l1, k1⟩
  have D1 := hid d1'
  have L1 := hid l1
  have K1 := hid k1
  clear d1' l1 k1 d1 d2
  have h97 : (blankS 97).cnt = 97 := rfl
  have ha0 : Alive (blankS 97) := blank_alive 97
  have fo := format_any w1 p (blankS 97) F1 0 D1.out (by omega) ha0 (by omega)
  have fa := fmtS_alive ha0 (by omega)
  have fc := fmtS_cnt (blankS 97)
  have e3 : ((blankS 97).cnt - 1) / 8 = 12 := rfl
  rw [e3] at fo
  rw [h97] at fc
  have FA := hid (And.intro fa.1 fc)
  generalize fmtS (blankS 97) = s2 at fo FA
  have FO := hid fo
  clear fo fa fc h97 ha0 e3
  go_wp2_with fail
  refine FO.out.mono ?_
  rintro e w2 ⟨t, q, g, m, F2, rfl, ns, ht, hm, k2, f2⟩
  have hrep := usedN_rep 12
  have S2 := newSt_at ns ht hm hrep
  have k02 : Keeps [] w0 w2 := K1.out.trans' k2 (fun i hi hmm => by have := L1.out i hmm; omega)
  have LV : LiveSt w0 w2 t q p g m 3000 (List.replicate 12 hd0) s2 (fun _ => none) := by
    have hz := K1.out.size
    obtain ⟨_, _, _, n1, n2, n3, n4, _⟩ := ns
    refine ⟨⟨F2, false, (by simpa using S2), fun b hb => ?_⟩, by omega, FA.out.1, by rw [FA.out.2, List.length_replicate]; omega, fun y z i _ _ h => by (cases h), k02⟩
    rcases f2 b hb with h | h
    · exact L1.out b h
    · omega
  have HLV := hid LV
  have HREP := hid (show usedN (List.replicate 12 hd0) ≤ 0 by omega)
  clear ns ht hm k2 f2 S2 k02 LV hrep FO L1 D1 FA K1
  go_wp2_with fail
  go_loopw [9] (fun i wr => ∃ (k : Nat) (hs : List Hd) (s : DS) (G : Idn → Option Nat), k ≤ l.length ∧ i = .int .i64 k ∧ Hid (LiveSt w0 wr t q p g m (3000 + 40 * k) hs s G) ∧ Hid (hs.length = 12) ∧ Hid (usedN hs ≤ k) ∧ Hid (∀ j (hj : j < l.length), j < k → mayI l[j] = true → (G l[j]).isSome = true) ∧ Hid (HeldAll hs G 1)) (fun i _ => l.length - (intOf i).toNat)
  case atStart => exact ⟨0, List.replicate 12 hd0, s2, fun _ => none, Nat.zero_le _, rfl, HLV, hid (by simp), HREP, hid (fun j hj h => absurd h (Nat.not_lt_zero j)), hid (fun _ _ _ h => by cases h)⟩
  case round =>
    obtain ⟨k, hs, s, G, hk0, rfl, L, HL, HU, H1, H2⟩ := hrel
    clear HLV
    by_cases hlt : k < l.length
    · obtain ⟨ga, off, rfl, hx0⟩ := V0.out.at k hlt
      obtain ⟨x, hx⟩ : ∃ x, x = l[k]'hlt := ⟨_, rfl⟩
      rw [← hx] at hx0
      have HX := hid hx
      have HXR := hid (show wr.rangeAt ga (off + k * 4) x.cells from fun j u hu => L.out.kp.cell (hx0 j u hu) (by simp))
      have HLT := hid hlt
      have hlt' : (k : Int) < (l.length : Int) := by omega
      clear hx hx0
      have ka : Keeps [] wr (wr.alloc (.cells #[.int .u8 1] 5)) := (Keeps.refl [] wr).alloc _
      have PA := hid (put_any_live w0 wr _ t q p g m (3000 + 40 * k) hs s G L.out ka (by omega) x _ [1] (row_one9 wr 1 (by omega)) (fun ad n c e _ => by injection e with e _ _; obtain rfl := Option.some.inj e; exact Or.inr (Nat.le_refl _)))
      clear ka
      go_wp2_with (first | (refine wpList_loadIdO rfl _ rfl ga (off + k * 4) (by simp [Act.eval]) x HXR.out ?_) | (refine wpList_is rfl _ _ (exec_oneB _ 1 rfl rfl) ?_) | fail)
      refine PA.out.mono ?_
      rintro e wb ⟨r, hs', s', G', rfl, lb, hl', hu', hg1, hg2, hh⟩
      have LB := hid (lb.mono (show 3000 + 40 * k + 40 ≤ 3000 + 40 * (k + 1) by omega))
      have HL' := hid (show hs'.length = 12 by rw [hl']; exact HL.out)
      have HU' := hid (show usedN hs' ≤ k + 1 by have := HU.out; omega)
      have H1' := hid (show ∀ j (hj : j < l.length), j < k + 1 → mayI l[j] = true → (G' l[j]).isSome = true from fun j hj hjk hmay => by
        by_cases e : j = k
        · subst e
          rw [← HX.out] at hmay ⊢
          exact hg2 hmay (by decide) (by rw [HL.out]; have := HU.out; have := HLEN.out; have := HLT.out; omega)
        · exact hg1 _ (H1.out j hj (by omega) hmay))
      have H2' := hid (hh H2.out)
      clear lb hl' hu' hg1 hg2 hh PA
      go_wp2_with fail
      go_roundw
      case rel => exact ⟨k + 1, hs', s', G', by have := HLT.out; omega, by go_num, LB, HL', HU', H1', H2'⟩
      case measure => have := HLT.out; simp [intOf] <;> omega
    · obtain rfl : k = l.length := by omega
      clear hlt hk0
      go_wp2_with fail
      refine (list_live L.out (by rw [HL.out]; omega)).mono ?_
      rintro e WL ⟨v5, xs, rfl, ⟨hp, hin, hmem, -⟩, hx5, ix, kl⟩
      have LL := hid (L.out.keep kl)
      have HP := hid hp
      have HIN := hid hin
      have HMEM := hid hmem
      have IX := hid ix
      have HX5 := hid hx5
      obtain ⟨xa, xc, rfl, -⟩ := id ix
      obtain ⟨xb, xo, ho1, ho2⟩ := idsAt_open ix
      have HO1 := hid ho1
      have HO2 := hid (show ∀ j (hj : j < xs.length), WL.rangeAt xb (xo + j * 4) (xs[j]'hj).cells from fun j hj r u hu => by
        obtain ⟨c0, c1, c2, c3⟩ := ho2 j hj
        match r, hu with
        | 0, hu => injection hu with hu; subst hu; exact c0
        | 1, hu => injection hu with hu; subst hu; exact c1
        | 2, hu => injection hu with hu; subst hu; exact c2
        | 3, hu => injection hu with hu; subst hu; exact c3)
      clear kl hp hin hmem ix hx5 ho1 ho2
      have BL := hid (heap_alloc_new WL (.cells (idA ⟨0, 0, 0, 0⟩) 36))
      have KB := hid ((Keeps.refl [] WL).alloc (.cells (idA ⟨0, 0, 0, 0⟩) 36))
      have hx100 : xs.length ≤ 100000 := HX5.out
      go_wp2_with (first | (refine wpList_is rfl _ _ (exec_allocO 36 (idA ⟨0, 0, 0, 0⟩) iIdO rfl) ?_) | (refine wpList_novalO rfl _ (exec_storeNewO 36 _ _ rfl WL (idA ⟨0, 0, 0, 0⟩) (idA ⟨0, 0, 0, 0⟩) rfl rfl rfl iIdO rfl (idA_one _)) ?_; refine Hid.out ?_) | fail)
      refine hid ?_
      obtain ⟨W2, hW2⟩ : ∃ z, z = WL.alloc (.cells (idA ⟨0, 0, 0, 0⟩) 36) := ⟨_, rfl⟩
      obtain ⟨bl, hbl⟩ : ∃ z, z = WL.heap.size := ⟨_, rfl⟩
      have HBL := hid hbl
      rw [← hW2, ← hbl] at BL
      rw [← hW2] at KB
      rw [← hW2, ← hbl]
      clear hW2 hbl
      go_wp2_with fail
      go_loopw [12, 13] (fun hv iv wr => ∃ j : Nat, j ≤ xs.length ∧ iv = .int .i64 (j : Int) ∧ hv = .bool (latO (xs.take j) cl).isSome ∧ Hid (wr.heap[bl]? = some (.cells (idA ((latO (xs.take j) cl).getD ⟨0, 0, 0, 0⟩)) 36 (0, 0))) ∧ Hid (Keeps [] WL wr)) (fun _ iv _ => xs.length - (intOf iv).toNat)
      case atStart => exact ⟨0, Nat.zero_le _, rfl, rfl, BL, KB⟩
      case round =>
        obtain ⟨j, hj0, rfl, rfl, BX, KX⟩ := hrel
        clear BL KB
        obtain ⟨bo, hbo⟩ : ∃ z, z = latO (xs.take j) cl := ⟨_, rfl⟩
        rw [← hbo] at BX ⊢
        have HBO := hid hbo
        clear hbo
        by_cases hlt : j < xs.length
        · have hxa := HO1.out (by omega)
          subst hxa
          obtain ⟨x, hx⟩ : ∃ x, x = xs[j]'hlt := ⟨_, rfl⟩
          have XR := hid (show wr.rangeAt xb (xo + j * 4) x.cells from fun r u hu => KX.out.cell (HO2.out j hlt r u (by rw [← hx]; exact hu)) (by simp))
          have HX := hid hx
          have HLT := hid hlt
          have hlt' : (j : Int) < (xs.length : Int) := by omega
          have NXT := hid (show latO (xs.take (j + 1)) cl = if x.c = cl then some x else bo by
            rw [List.take_succ_eq_append_getElem hlt, latO_snoc, ← hx, HBO.out])
          clear hx
          go_wp2_with fail
          by_cases hj1 : j = 0
          · have HJ0 := hid hj1
            clear hj1
            refine wp_region_any (by kernel_rfl) (wpAny_of_held (S := KpS [] wr.heap.size wr.drew) _ _ _ _ ?_)
            change wpAnyH _ _ _ _ _ _ _ _ wr.drew
            have s0 : KpS [] wr.heap.size wr.drew wr.drew := KpS.refl _ _ _
            refine held_take (i := 0) (v := .int .i64 (j : Int)) rfl (by kernel_rfl) (by kernel_rfl) (by kernel_rfl) (fun _ _ _ h => h) rfl (fun W1 hW1 => rfl) (KpS.refl _ _ _) ?_
            simp only [Act.put, List.setIfInBounds_toArray, List.set_cons_zero, List.set_cons_succ]
            refine held_take (i := 1) (v := .bool false) rfl (by kernel_rfl) (by kernel_rfl) (by kernel_rfl) (fun _ _ _ h => h) rfl (fun W1 hW1 => by have := HJ0.out; go_simp <;> omega) (KpS.refl _ _ _) ?_
            simp only [Act.put, List.setIfInBounds_toArray, List.set_cons_zero, List.set_cons_succ]
            refine held_take (i := 2) (v := .bool false) rfl (by kernel_rfl) (by kernel_rfl) (by kernel_rfl) (fun _ _ _ h => h) rfl (fun W1 hW1 => rfl) (KpS.refl _ _ _) ?_
            simp only [Act.put, List.setIfInBounds_toArray, List.set_cons_zero, List.set_cons_succ]
            refine held_skip (i := 3) rfl (by kernel_rfl) (by kernel_rfl) (by kernel_rfl) (fun _ _ _ h => h) rfl (s0) ?_
            simp only [Act.put, List.setIfInBounds_toArray, List.set_cons_zero, List.set_cons_succ]
            refine held_skip (i := 4) rfl (by kernel_rfl) (by kernel_rfl) (by kernel_rfl) (fun _ _ _ h => h) rfl (s0) ?_
            simp only [Act.put, List.setIfInBounds_toArray, List.set_cons_zero, List.set_cons_succ]
            refine held_skip (i := 5) rfl (by kernel_rfl) (by kernel_rfl) (by kernel_rfl) (fun _ _ _ h => h) rfl (s0) ?_
            simp only [Act.put, List.setIfInBounds_toArray, List.set_cons_zero, List.set_cons_succ]
            refine held_skip (i := 6) rfl (by kernel_rfl) (by kernel_rfl) (by kernel_rfl) (fun _ _ _ h => h) rfl (s0) ?_
            simp only [Act.put, List.setIfInBounds_toArray, List.set_cons_zero, List.set_cons_succ]
            refine held_skip (i := 7) rfl (by kernel_rfl) (by kernel_rfl) (by kernel_rfl) (fun _ _ _ h => h) rfl (s0) ?_
            simp only [Act.put, List.setIfInBounds_toArray, List.set_cons_zero, List.set_cons_succ]
            refine held_skip (i := 8) rfl (by kernel_rfl) (by kernel_rfl) (by kernel_rfl) (fun _ _ _ h => h) rfl (s0) ?_
            simp only [Act.put, List.setIfInBounds_toArray, List.set_cons_zero, List.set_cons_succ]
            refine held_skip (i := 9) rfl (by kernel_rfl) (by kernel_rfl) (by kernel_rfl) (fun _ _ _ h => h) rfl (s0) ?_
            simp only [Act.put, List.setIfInBounds_toArray, List.set_cons_zero, List.set_cons_succ]
            refine held_skip (i := 10) rfl (by kernel_rfl) (by kernel_rfl) (by kernel_rfl) (fun _ _ _ h => h) rfl (s0) ?_
            simp only [Act.put, List.setIfInBounds_toArray, List.set_cons_zero, List.set_cons_succ]
            refine held_skip (i := 11) rfl (by kernel_rfl) (by kernel_rfl) (by kernel_rfl) (fun _ _ _ h => h) rfl (s0) ?_
            simp only [Act.put, List.setIfInBounds_toArray, List.set_cons_zero, List.set_cons_succ]
            refine held_skip (i := 12) rfl (by kernel_rfl) (by kernel_rfl) (by kernel_rfl) (fun _ _ _ h => h) rfl (s0) ?_
            simp only [Act.put, List.setIfInBounds_toArray, List.set_cons_zero, List.set_cons_succ]
            refine held_skip (i := 13) rfl (by kernel_rfl) (by kernel_rfl) (by kernel_rfl) (fun _ _ _ h => h) rfl (s0) ?_
            simp only [Act.put, List.setIfInBounds_toArray, List.set_cons_zero, List.set_cons_succ]
            refine held_take (i := 14) (v := .bool false) rfl (by kernel_rfl) (by kernel_rfl) (by kernel_rfl) (fun _ _ _ h => h) rfl (fun W1 hW1 => by go_simp) (KpS.refl _ _ _) ?_
            simp only [Act.put, List.setIfInBounds_toArray, List.set_cons_zero, List.set_cons_succ]
            refine wpAnyH_done (by kernel_rfl) ?_ _
            have K9 := hid (KX.out.trans (Keeps.refl [] wr).drew)
            have B9 := hid (show wr.drew.heap[bl]? = some (.cells (idA (bo.getD ⟨0, 0, 0, 0⟩)) 36 (0, 0)) from BX.out)
            have X9 := hid (show wr.drew.rangeAt xb (xo + j * 4) x.cells from fun r u hu => ((Keeps.refl [] wr).drew).cell (XR.out r u hu) (by simp))
            clear s0
            generalize wr.drew = wz at K9 B9 X9 ⊢
            by_cases hc : x.c = cl
            · have hcb : (x.c == cl) = true := by simpa using hc
              have NX := hid (show latO (xs.take (j + 1)) cl = some x by rw [NXT.out, if_pos hc])
              have x0 : wz.cell? ⟨xb, xo + j * 4, none⟩ = some (.int .i64 x.c) := by simpa using X9.out 0 _ rfl
              have TH := hid (id_there B9.out)
              obtain ⟨f1, k1⟩ := id_put (y := x) B9.out
              have F1' := hid f1
              have K10 := hid (K9.out.trans' k1 (S := []) (fun b hb hm => by simp at hm; have := HBL.out; omega))
              clear f1 k1 hc
              go_wp2_with (first | (refine wpList_loadIdO rfl _ rfl xb (xo + j * 4) (by simp [Act.eval]) x X9.out ?_) | (refine wpList_novalO rfl _ (exec_storeMidO 36 _ _ rfl bl 0 (idA x) rfl rfl TH.out iIdO (idA_one _)) ?_; refine Hid.out ?_) | fail)
              refine hid ?_
              clear x0 TH
              obtain ⟨wy, hwy⟩ : ∃ z, z = wz.setCells bl 0 (idA x).toList := ⟨_, rfl⟩
              rw [← hwy] at F1' K10 ⊢
              clear hwy
              go_wp2_with fail
              go_roundw
              case rel => exact ⟨j + 1, by have := HLT.out; omega, by go_num, by rw [NX.out]; rfl, by rw [NX.out]; exact F1', K10⟩
              case measure => have := HLT.out; simp [intOf] <;> omega
            · have hcb : (x.c == cl) = false := by simpa using hc
              have NX := hid (show latO (xs.take (j + 1)) cl = bo by rw [NXT.out, if_neg hc])
              have x0 : wz.cell? ⟨xb, xo + j * 4, none⟩ = some (.int .i64 x.c) := by simpa using X9.out 0 _ rfl
              clear hc
              go_wp2_with fail
              go_roundw
              case rel => exact ⟨j + 1, by have := HLT.out; omega, by go_num, by rw [NX.out], by rw [NX.out]; exact B9, K9⟩
              case measure => have := HLT.out; simp [intOf] <;> omega
          · obtain ⟨i, hi⟩ : ∃ i, j = i + 1 := ⟨j - 1, by omega⟩
            obtain ⟨x1, hx1⟩ : ∃ x, x = xs[i]'(by omega) := ⟨_, rfl⟩
            have X1 := hid (show wr.rangeAt xb (xo + i * 4) x1.cells from fun r u hu => KX.out.cell (HO2.out i (by omega) r u (by rw [← hx1]; exact hu)) (by simp))
            have LS := hid (show decide (cmpI x1 x < 0) = true from decide_eq_true (by rw [hx1, HX.out]; exact (List.pairwise_iff_getElem.1 HP.out) i j (by omega) hlt (by omega)))
            have HJM := hid (show ((j : Int) - 1) = (i : Int) by omega)
            have HJ1 := hid (show 0 < j ∧ i < xs.length ∧ j = i + 1 by omega)
            have HW3 := hid (show IntKind.i64.wrap ((j : Int) - 1) = (i : Int) by rw [IntKind.wrap_i64]; have h2 := HX5.out; omega)
            clear hx1 hj1 hi
            refine wp_region_any (by kernel_rfl) (wpAny_of_held (S := KpS [] wr.heap.size wr.drew) _ _ _ _ ?_)
            change wpAnyH _ _ _ _ _ _ _ _ wr.drew
            have s0 : KpS [] wr.heap.size wr.drew wr.drew := KpS.refl _ _ _
            have xlt : xb < wr.heap.size := World.block_lt_of_cell? _ _ (XR.out 0 _ rfl)
            have cA : ∀ W1, KpS [] wr.heap.size wr.drew W1 → W1.rangeAt xb (xo + i * 4) x1.cells := fun W1 h r u hu => h.cell (by rw [World.cell?_drew]; exact X1.out r u hu) xlt (by simp)
            have cB : ∀ W1, KpS [] wr.heap.size wr.drew W1 → W1.rangeAt xb (xo + j * 4) x.cells := fun W1 h r u hu => h.cell (by rw [World.cell?_drew]; exact XR.out r u hu) xlt (by simp)
            refine held_take (i := 0) (v := .int .i64 (j : Int)) rfl (by kernel_rfl) (by kernel_rfl) (by kernel_rfl) (fun _ _ _ h => h) rfl (fun W1 hW1 => rfl) (KpS.refl _ _ _) ?_
            simp only [Act.put, List.setIfInBounds_toArray, List.set_cons_zero, List.set_cons_succ]
            refine held_take (i := 1) (v := .bool true) rfl (by kernel_rfl) (by kernel_rfl) (by kernel_rfl) (fun _ _ _ h => h) rfl (fun W1 hW1 => by have := HJ1.out; go_simp <;> omega) (KpS.refl _ _ _) ?_
            simp only [Act.put, List.setIfInBounds_toArray, List.set_cons_zero, List.set_cons_succ]
            refine held_take (i := 2) (v := .bool true) rfl (by kernel_rfl) (by kernel_rfl) (by kernel_rfl) (fun _ _ _ h => h) rfl (fun W1 hW1 => rfl) (KpS.refl _ _ _) ?_
            simp only [Act.put, List.setIfInBounds_toArray, List.set_cons_zero, List.set_cons_succ]
            refine held_takeW (i := 3) (v := .slice (some ⟨xb, xo, none⟩) xs.length xc) rfl (by kernel_rfl) (by kernel_rfl) (by kernel_rfl) (fun _ _ _ h => h) rfl (fun W1 hW1 => rfl) (KpS.refl _ _ _) ?_
            simp only [Act.put, List.setIfInBounds_toArray, List.set_cons_zero, List.set_cons_succ]
            refine held_takeW (i := 4) (v := .int .i64 (j : Int)) rfl (by kernel_rfl) (by kernel_rfl) (by kernel_rfl) (fun _ _ _ h => h) rfl (fun W1 hW1 => rfl) (KpS.refl _ _ _) ?_
            simp only [Act.put, List.setIfInBounds_toArray, List.set_cons_zero, List.set_cons_succ]
            refine held_takeW (i := 5) (v := .int .i64 (i : Int)) rfl (by kernel_rfl) (by kernel_rfl) (by kernel_rfl) (fun _ _ _ h => h) rfl (fun W1 hW1 => by have h3 := HW3.out; go_simp <;> exact h3) (KpS.refl _ _ _) ?_
            simp only [Act.put, List.setIfInBounds_toArray, List.set_cons_zero, List.set_cons_succ]
            refine held_takeW (i := 6) (v := .pointer (some ⟨xb, xo + i * 4, none⟩)) rfl (by kernel_rfl) (by kernel_rfl) (by kernel_rfl) (fun _ _ _ h => h) rfl (fun W1 hW1 => by have := HJ1.out.2.1; have h100 := HX5.out; go_simp <;> omega) (KpS.refl _ _ _) ?_
            simp only [Act.put, List.setIfInBounds_toArray, List.set_cons_zero, List.set_cons_succ]
            refine held_takeW (i := 7) (v := idV x1) rfl (by kernel_rfl) (by kernel_rfl) (by kernel_rfl) (fun _ _ _ h => h) rfl (fun W1 hW1 => exec_load _ _ _ _ rfl rfl (loadIdO W1 xb (xo + i * 4) x1 (cA W1 hW1))) (KpS.refl _ _ _) ?_
            simp only [Act.put, List.setIfInBounds_toArray, List.set_cons_zero, List.set_cons_succ]
            refine held_takeW (i := 8) (v := .slice (some ⟨xb, xo, none⟩) xs.length xc) rfl (by kernel_rfl) (by kernel_rfl) (by kernel_rfl) (fun _ _ _ h => h) rfl (fun W1 hW1 => rfl) (KpS.refl _ _ _) ?_
            simp only [Act.put, List.setIfInBounds_toArray, List.set_cons_zero, List.set_cons_succ]
            refine held_takeW (i := 9) (v := .int .i64 (j : Int)) rfl (by kernel_rfl) (by kernel_rfl) (by kernel_rfl) (fun _ _ _ h => h) rfl (fun W1 hW1 => rfl) (KpS.refl _ _ _) ?_
            simp only [Act.put, List.setIfInBounds_toArray, List.set_cons_zero, List.set_cons_succ]
            refine held_takeW (i := 10) (v := .pointer (some ⟨xb, xo + j * 4, none⟩)) rfl (by kernel_rfl) (by kernel_rfl) (by kernel_rfl) (fun _ _ _ h => h) rfl (fun W1 hW1 => by have := HLT.out; go_simp <;> omega) (KpS.refl _ _ _) ?_
            simp only [Act.put, List.setIfInBounds_toArray, List.set_cons_zero, List.set_cons_succ]
            refine held_takeW (i := 11) (v := idV x) rfl (by kernel_rfl) (by kernel_rfl) (by kernel_rfl) (fun _ _ _ h => h) rfl (fun W1 hW1 => exec_load _ _ _ _ rfl rfl (loadIdO W1 xb (xo + j * 4) x (cB W1 hW1))) (KpS.refl _ _ _) ?_
            simp only [Act.put, List.setIfInBounds_toArray, List.set_cons_zero, List.set_cons_succ]
            refine held_doW (i := 12) (by kernel_rfl) rfl rfl (wp_enter (f := 13) (args := #[idV x1, idV x]) (by go_simp) (less_any wr.drew x1 x) ?_)
            rintro e y1 ⟨rfl, k1⟩
            rw [LS.out]
            have s1 : KpS [] wr.heap.size wr.drew y1 := s0.keeps k1 s0.size (by simp)
            have h1 : Keeps [] wr y1 := (Keeps.refl [] wr).drew.trans k1
            refine ⟨_, rfl, s1, ?_⟩
            simp only [Act.put, List.setIfInBounds_toArray, List.set_cons_zero, List.set_cons_succ]
            refine held_takeW (i := 13) (v := .bool false) rfl (by kernel_rfl) (by kernel_rfl) (by kernel_rfl) (fun _ _ _ h => h) rfl (fun W1 hW1 => by go_simp) (s1) ?_
            simp only [Act.put, List.setIfInBounds_toArray, List.set_cons_zero, List.set_cons_succ]
            refine held_take (i := 14) (v := .bool false) rfl (by kernel_rfl) (by kernel_rfl) (by kernel_rfl) (fun _ _ _ h => h) rfl (fun W1 hW1 => by go_simp) (s1) ?_
            simp only [Act.put, List.setIfInBounds_toArray, List.set_cons_zero, List.set_cons_succ]
            refine wpAnyH_done (by kernel_rfl) ?_ _
            have K9 := hid (KX.out.trans h1)
            have B9 := hid ((h1.block bl (lt_of_block BX.out) (by simp)).trans BX.out)
            have X9 := hid (show y1.rangeAt xb (xo + j * 4) x.cells from fun r u hu => h1.cell (XR.out r u hu) (by simp))
            clear s0 s1 k1 h1 cA cB xlt LS X1
            generalize y1 = wz at K9 B9 X9 ⊢
            by_cases hc : x.c = cl
            · have hcb : (x.c == cl) = true := by simpa using hc
              have NX := hid (show latO (xs.take (j + 1)) cl = some x by rw [NXT.out, if_pos hc])
              have x0 : wz.cell? ⟨xb, xo + j * 4, none⟩ = some (.int .i64 x.c) := by simpa using X9.out 0 _ rfl
              have TH := hid (id_there B9.out)
              obtain ⟨f1, k1⟩ := id_put (y := x) B9.out
              have F1' := hid f1
              have K10 := hid (K9.out.trans' k1 (S := []) (fun b hb hm => by simp at hm; have := HBL.out; omega))
              clear f1 k1 hc
              go_wp2_with (first | (refine wpList_loadIdO rfl _ rfl xb (xo + j * 4) (by simp [Act.eval]) x X9.out ?_) | (refine wpList_novalO rfl _ (exec_storeMidO 36 _ _ rfl bl 0 (idA x) rfl rfl TH.out iIdO (idA_one _)) ?_; refine Hid.out ?_) | fail)
              refine hid ?_
              clear x0 TH
              obtain ⟨wy, hwy⟩ : ∃ z, z = wz.setCells bl 0 (idA x).toList := ⟨_, rfl⟩
              rw [← hwy] at F1' K10 ⊢
              clear hwy
              go_wp2_with fail
              go_roundw
              case rel => exact ⟨j + 1, by have := HLT.out; omega, by go_num, by rw [NX.out]; rfl, by rw [NX.out]; exact F1', K10⟩
              case measure => have := HLT.out; simp [intOf] <;> omega
            · have hcb : (x.c == cl) = false := by simpa using hc
              have NX := hid (show latO (xs.take (j + 1)) cl = bo by rw [NXT.out, if_neg hc])
              have x0 : wz.cell? ⟨xb, xo + j * 4, none⟩ = some (.int .i64 x.c) := by simpa using X9.out 0 _ rfl
              clear hc
              go_wp2_with fail
              go_roundw
              case rel => exact ⟨j + 1, by have := HLT.out; omega, by go_num, by rw [NX.out], by rw [NX.out]; exact B9, K9⟩
              case measure => have := HLT.out; simp [intOf] <;> omega
        · obtain rfl : j = xs.length := by omega
          rw [List.take_length] at HBO
          go_wp2_with fail
          refine (latest_live (LL.out.keep KX.out) (by rw [HL.out]; omega) cl).mono ?_
          rintro e W4 ⟨xs2, ⟨hp2, hin2, hmem2, -⟩, rfl, kc⟩
          obtain rfl : xs2 = xs := sorted_ext _ _ hp2 HP.out (fun y => ⟨fun hy => (HMEM.out y (hin2 y hy)).2 ((hmem2 y (hin2 y hy)).1 hy), fun hy => (hmem2 y (HIN.out y hy)).2 ((HMEM.out y (HIN.out y hy)).1 hy)⟩)
          rw [← HBO.out]
          have K4 := hid (KX.out.trans kc)
          have B4 := hid ((kc.block bl (lt_of_block BX.out) (by simp)).trans BX.out)
          clear hp2 hin2 hmem2 kc
          obtain ⟨lat, hlat⟩ : ∃ z, z = bo.getD ⟨0, 0, 0, 0⟩ := ⟨_, rfl⟩
          rw [← hlat] at B4 ⊢
          obtain ⟨hav, hhav⟩ : ∃ z, z = bo.isSome := ⟨_, rfl⟩
          rw [← hhav]
          clear hlat hhav BX KX
          go_wp2_with (first | (refine wpList_is rfl _ _ (exec_allocO 36 (idA ⟨0, 0, 0, 0⟩) iIdO rfl) ?_) | (refine wpList_novalO rfl _ (exec_storeNewO 36 _ _ rfl W4 (idA ⟨0, 0, 0, 0⟩) (idA lat) rfl rfl rfl iIdO rfl (idA_one _)) ?_; refine Hid.out ?_) | fail)
          refine hid ?_
          have k5 : Keeps [] W4 (W4.alloc (.cells (idA lat) 36)) := (Keeps.refl [] W4).alloc _
          have BZ := hid (heap_alloc_new W4 (.cells (idA lat) 36))
          have B5 := hid ((k5.block bl (lt_of_block B4.out) (by simp)).trans B4.out)
          have K5 := hid (K4.out.trans k5)
          obtain ⟨W5, hW5⟩ : ∃ z, z = W4.alloc (.cells (idA lat) 36) := ⟨_, rfl⟩
          obtain ⟨bz, hbz⟩ : ∃ z, z = W4.heap.size := ⟨_, rfl⟩
          rw [← hW5] at BZ B5 K5
          rw [← hbz] at BZ
          rw [← hW5, ← hbz]
          clear hW5 hbz k5
          go_wp2_with fail
          go_loopw [16, 17, 18] (fun iv _ _ wr => ∃ k : Nat, k ≤ l.length ∧ iv = .int .i64 (k : Int) ∧ Hid (Keeps [] W5 wr)) (fun iv _ _ _ => l.length - (intOf iv).toNat)
          case atStart => exact ⟨0, Nat.zero_le _, rfl, hid (Keeps.refl _ _)⟩
          case round =>
            obtain ⟨k, hk0, rfl, KK⟩ := hrel
            by_cases hlt : k < l.length
            · obtain ⟨ga, off, rfl, hx0⟩ := V0.out.at k hlt
              obtain ⟨x, hx⟩ : ∃ x, x = l[k]'hlt := ⟨_, rfl⟩
              rw [← hx] at hx0
              have LW := hid (LL.out.keep (K5.out.trans KK.out))
              have XR := hid (show wr.rangeAt ga (off + k * 4) x.cells from fun r u hu => LW.out.kp.cell (hx0 r u hu) (by simp))
              have HX := hid (show mayI x = true → (G x).isSome = true by rw [hx]; exact H1.out k hlt hlt)
              have HLT := hid hlt
              have hlt' : (k : Int) < (l.length : Int) := by omega
              clear hx hx0
              go_wp2_with (first | (refine wpList_loadIdO rfl _ rfl ga (off + k * 4) (by simp [Act.eval]) x XR.out ?_) | fail)
              cases hm : mayI x with
              | true =>
                obtain ⟨i, hi⟩ := Option.isSome_iff_exists.1 (HX.out hm)
                refine (get_yes_live LW.out x hm i hi).mono ?_
                rintro e wa ⟨bv, bs, rfl, rb, ⟨hi2, hbs⟩, ka⟩
                obtain ⟨ba, bc, rfl⟩ : ∃ a c, bv = .slice a bs.length c := by obtain ⟨a, c, e, _⟩ := rb; exact ⟨a, c, e⟩
                have hb1 : bs.length = 1 := by rw [hbs]; exact H2.out x i (mayI_In hm) hi hi2
                rw [hb1]
                have KA := hid (KK.out.trans ka)
                have XA := hid (show wa.rangeAt ga (off + k * 4) x.cells from fun r u hu => ka.cell (XR.out r u hu) (by simp))
                have MR := hid (fun W => mayR_any W x)
                rw [hm] at MR
                clear ka rb hbs hi2 hb1 hm hi
                go_wp2_with (first | (refine wpList_loadIdO rfl _ rfl ga (off + k * 4) (by simp [Act.eval]) x XA.out ?_) | fail)
                refine (MR.out wa).mono ?_
                rintro e wb ⟨rfl, kb⟩
                have KB := hid (KA.out.trans kb)
                clear kb MR
                go_wp2_with fail
                go_roundw
                case rel => exact ⟨k + 1, by have := HLT.out; omega, by go_num, KB⟩
                case measure => have := HLT.out; simp [intOf] <;> omega
              | false =>
                refine (get_live LW.out x).mono ?_
                rintro e wa ⟨⟨v1, er, rfl⟩, ka⟩
                have KA := hid (KK.out.trans ka)
                have XA := hid (show wa.rangeAt ga (off + k * 4) x.cells from fun r u hu => ka.cell (XR.out r u hu) (by simp))
                have MR := hid (fun W => mayR_any W x)
                rw [hm] at MR
                clear ka hm
                go_wp2_with (first | (refine wpList_loadIdO rfl _ rfl ga (off + k * 4) (by simp [Act.eval]) x XA.out ?_) | fail)
                refine (MR.out wa).mono ?_
                rintro e wb ⟨rfl, kb⟩
                have KB := hid (KA.out.trans kb)
                clear kb MR
                go_wp2_with fail
                go_roundw
                case rel => exact ⟨k + 1, by have := HLT.out; omega, by go_num, KB⟩
                case measure => have := HLT.out; simp [intOf] <;> omega
            · obtain rfl : k = l.length := by omega
              have BZ6 := hid (id_range ((KK.out.block bz (lt_of_block BZ.out) (by simp)).trans BZ.out))
              have BL6 := hid (id_range ((KK.out.block bl (lt_of_block B5.out) (by simp)).trans B5.out))
              have eh : (hav == hav) = true := by simp
              go_wp2_with (first | (refine wpList_isWO rfl _ _ (exec_load _ _ _ _ rfl rfl (loadIdO _ bz 0 lat BZ6.out)) ?_) | (refine wpList_isWO rfl _ _ (exec_load _ _ _ _ rfl rfl (loadIdO _ bl 0 lat BL6.out)) ?_) | (refine wpList_isWO rfl _ _ (exec_eqIds _ _ _ lat lat rfl rfl rfl) ?_) | fail)
              go_ret
              exact ⟨by simp, K0.out.trans ((LL.out.keep (K5.out.trans KK.out)).kp)⟩
end Go.Proofs.YtnhcfkiejldicaaGreat
