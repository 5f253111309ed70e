/- layout: Read, of the reference. -/
import Derived.Test.YtoglcohdanpciaaLyJ3
import Derived.Test.YtoglcohdanpciaaREyeL
namespace Go.Proofs.Ytoglcohdanpciaa
open Go.RowKit
set_option maxRecDepth 100000
set_option linter.unusedSimpArgs false
set_option linter.unusedVariables false

theorem iRHead : (Try.prog.info? 46).map (fun i => (i.zero, i.size)) = some (some (.agg #[.int .i64 0, .int .i64 0, .int .i64 0, .int .i64 0, .int .i64 0, .int .i64 0]), 6) := by kernel_rfl
theorem uRHead : Try.prog.underlying 46 = some (.struct (Try.prog.fieldsOf 46)) := by kernel_rfl
theorem sRHead : (Try.prog.info? 46).map (·.size) = some 6 := by kernel_rfl
theorem loadRHd (W : World) (b off : Nat) (h : Hd13) (hc : W.rangeAt b off h.cells) : (Instr.loadAt 46 (.pointer (some ⟨b, off, none⟩))).run Try.prog W = .ok (hdV13 h) W :=
  run_loadAt_mid W b off 46 h.cells _ hc uRHead rfl (by rw [sRHead]; rfl)
theorem rhd_ret {w : World} {b : Nat} {h : Hd13} (hx : w.rangeAt b 0 h.cells) : (loadVar 46 ⟨b, 0, none⟩).run Try.prog w = .ok (hdV13 h) w :=
  run_loadVar_mid w b 0 46 h.cells _ hx uRHead rfl (by rw [sRHead]; rfl)
theorem buildRHd (w : World) : (Instr.build 46 #[]).run Try.prog w = .ok (hdV13 hZ13) w := by kernel_rfl
theorem exec_buildRHd {ρ : Operand → Value} {o : Oper} {w : World} (ho : o.op = .build 46 #[]) : (execOp ρ o).run Try.prog w = .ok (.value (hdV13 hZ13)) w := by
  simp only [execOp, ho, List.map_toArray, List.map_nil, Sem.run_bind, buildRHd, Result.andThen_ok, Sem.run_pure]
theorem exec_storeRHd {ρ : Operand → Value} {o : Oper} {w : World} (x y : Operand) (ho : o.op = .store 46 x y) (g : Nat) (cur : Array Value) (hb : w.heap[g]? = some (.cells cur 46 (0, 0))) (hsz : cur.size = 6) (hx : ρ x = .pointer (some ⟨g, 0, none⟩))
    (h : Hd13) (hy : ρ y = hdV13 h) : (execOp ρ o).run Try.prog w = .ok .skip (w.setRow g h.cells.toArray) := by
  have hst := run_storeCells_at Try.prog g 0 46 h.cells 0 cur w hb (by simp [Hd13.cells, hsz]) (fun v hv => by
    simp [Hd13.cells] at hv
    rcases hv with rfl | rfl | rfl | rfl | rfl | rfl <;> rfl)
  have e4 : h.cells.length = 6 := rfl
  have e6 : cur.toList.drop 6 = [] := List.drop_of_length_le (by simp [hsz])
  simp only [Nat.zero_add, e4, List.take_zero, List.nil_append, e6, List.append_nil] at hst
  have e3 : (hdV13 h).cells = h.cells.toArray := rfl
  have e5 : h.cells.toArray.size = 6 := rfl
  have hs : (sizeOf 46).run Try.prog w = .ok 6 w := by
    have := sRHead
    cases hq : Try.prog.info? 46 with
    | none => simp [hq] at this
    | some i => simp [hq] at this; simp [sizeOf, typeInfo, hq, this]
  have hr : (Instr.storeAt 46 (.pointer (some ⟨g, 0, none⟩)) (hdV13 h)).run Try.prog w = .ok () (w.setRow g h.cells.toArray) := by
    simp only [Instr.storeAt, Instr.sureAddr, Sem.run_bind, Sem.run_pure, Result.andThen_ok, storeVar]
    simp [hs, e3, e4, e5, hst, Result.andThen]
  unfold execOp
  simp only [ho, hx, hy, hr, Sem.run_bind, Result.andThen_ok]
  rfl
theorem rrd_ret {fn : Func} {p q s : Tmp} (hr : fn.results = #[.cell p 46, .tmp q, .tmp s]) {tmps : Array Value} {w : World} {b : Nat} {x y z : Value} (hp : tmps.getD p undef = .pointer (some ⟨b, 0, none⟩)) (hx : (loadVar 46 ⟨b, 0, none⟩).run Try.prog w = .ok x w)
    (hq : tmps.getD q undef = y) (hs : tmps.getD s undef = z) : (results fn tmps).run Try.prog w = .ok (.tuple #[x, y, z]) w := by
  have hp' : tmps[p]?.getD undef = .pointer (some ⟨b, 0, none⟩) := by simpa using hp
  have hq' : tmps[q]?.getD undef = y := by simpa using hq
  have hs' : tmps[s]?.getD undef = z := by simpa using hs
  simp [results, hr, hp', hq', hs', asAddr, hx]
/-- An own row's block is new. -/
theorem own_lo {w : World} {B n c : Nat} {a : Option Addr} {e : TypeId} {xs : List Value} (h : w.ownsRow B e 1 (.slice a n c) n xs) : ∀ ad, a = some ad → B ≤ ad.block := by
  intro ad had
  subst had
  rcases h.2 with ⟨h', _⟩ | ⟨g, cap, cur, h', hb, _⟩
  · simp at h'
  · injection h' with h1 _ _
    injection h1 with h1
    rw [h1]; exact hb
theorem REyL.row0 {wr : World} {B p : Nat} {st : PSt} (h : REyL wr B p st) : ∃ a c, wr.cell? ⟨p, 0, none⟩ = some (.slice a st.1.length c) ∧ RowAt wr (.slice a st.1.length c) st.1 := by
  obtain ⟨v2, he⟩ := h
  obtain ⟨a, c, e, _⟩ := id he.row
  refine ⟨a, c, ?_, ?_⟩
  · rw [← e]; exact he.cell0
  · rw [← e]; exact he.row

set_option maxHeartbeats 51200000 in
theorem rRead_any (w : World) (v : Value) (zs : List Int) (h : RowAt w v zs) (hl : zs.length ≤ 35184372088832) : Calls Try.prog 27 #[v] w (ReadPost13 w (readL zs)) := by
  have HB := hid h.bytes
  have HL := hid hl
  obtain ⟨r, hr⟩ : ∃ r, r = readL zs := ⟨_, rfl⟩
  rw [← hr]
  have HR := hid hr
  clear hr
  obtain ⟨va, vn, vc, hv⟩ : ∃ a n c, v = .slice a n c := by obtain ⟨a, c, e, _⟩ := h; exact ⟨a, _, c, e⟩
  subst hv
  obtain rfl : zs.length = vn := by obtain ⟨a, c, e, _⟩ := h; injection e with _ e _; exact e.symm
  -- the result's box, the eye, the head
  have k1 : Keeps [] w (w.alloc (.cells #[.int .i64 0, .int .i64 0, .int .i64 0, .int .i64 0, .int .i64 0, .int .i64 0] 46)) := (Keeps.refl [] w).alloc _
  have k2 : Keeps [] (w.alloc (.cells #[.int .i64 0, .int .i64 0, .int .i64 0, .int .i64 0, .int .i64 0, .int .i64 0] 46)) ((w.alloc (.cells #[.int .i64 0, .int .i64 0, .int .i64 0, .int .i64 0, .int .i64 0, .int .i64 0] 46)).alloc (.cells #[.slice va zs.length vc, .int .i64 0] 125)) := (Keeps.refl [] _).alloc _
  have e0 := reye_newB k1 h hl
  rw [World.size_alloc] at e0
  obtain ⟨w2, hw2⟩ : ∃ x, x = (w.alloc (.cells #[.int .i64 0, .int .i64 0, .int .i64 0, .int .i64 0, .int .i64 0, .int .i64 0] 46)).alloc (.cells #[.slice va zs.length vc, .int .i64 0] 125) := ⟨_, rfl⟩
  rw [← hw2] at e0 k2
  have SW2 := hid (show w2.heap.size = w.heap.size + 2 by rw [hw2]; simp)
  have D2 := hid ((k2.block w.heap.size (by simp) (by simp)).trans (heap_alloc_new w _))
  have E2' := hid e0
  have K2 := hid (k1.trans k2)
  have HW2 := hid hw2
  have k3 : Keeps [] w2 (w2.alloc (.cells #[.int .i64 0, .int .i64 0, .int .i64 0, .int .i64 0, .int .i64 0, .int .i64 0] 46)) := (Keeps.refl [] w2).alloc _
  obtain ⟨p, hp⟩ : ∃ p, p = w.heap.size + 1 := ⟨_, rfl⟩
  obtain ⟨q, hq⟩ : ∃ q, q = w2.heap.size := ⟨_, rfl⟩
  have HP := hid hp
  have HQ := hid (show q = w.heap.size + 2 by rw [hq]; exact SW2.out)
  rw [← hp] at E2'
  have J0 := hid (heap_alloc_new w2 (.cells #[.int .i64 0, .int .i64 0, .int .i64 0, .int .i64 0, .int .i64 0, .int .i64 0] 46))
  rw [← hq] at J0
  have E0 := hid (E2'.out.more k3)
  have K0 := hid (K2.out.trans k3)
  have D0 := hid ((k3.block w.heap.size (by have := SW2.out; omega) (by simp)).trans D2.out)
  obtain ⟨W0, hW0⟩ : ∃ x, x = w2.alloc (.cells #[.int .i64 0, .int .i64 0, .int .i64 0, .int .i64 0, .int .i64 0, .int .i64 0] 46) := ⟨_, rfl⟩
  have HW0 := hid hW0
  rw [← hW0] at J0 E0 K0 D0
  have L0 := hid (show q < W0.heap.size by rw [hW0, hq, World.size_alloc]; omega)
  have HQQ := hid hq
  clear h hl k1 k2 k3 e0 hw2 hp hq hW0
  obtain ⟨x1, s1', e1⟩ : ∃ x s, numE 1 (zs, 0) = (x, s) := ⟨_, _, rfl⟩
  obtain ⟨x2, s2', e2⟩ : ∃ x s, numE 3 s1' = (x, s) := ⟨_, _, rfl⟩
  obtain ⟨x3, s3', e3⟩ : ∃ x s, numE 4 s2' = (x, s) := ⟨_, _, rfl⟩
  obtain ⟨x4, s4', e4⟩ : ∃ x s, numE 1 s3' = (x, s) := ⟨_, _, rfl⟩
  obtain ⟨x5, s5', e5⟩ : ∃ x s, numE 1 s4' = (x, s) := ⟨_, _, rfl⟩
  obtain ⟨x6, s6', e6⟩ : ∃ x s, numE 2 s5' = (x, s) := ⟨_, _, rfl⟩
  have EG := hid (headS_of e1 e2 e3 e4 e5 e6)
  have N1 := hid e1
  have N2 := hid e2
  have N3 := hid e3
  have N4 := hid e4
  have N5 := hid e5
  have N6 := hid e6
  clear e1 e2 e3 e4 e5 e6
  have FIN : Hid ((s6'.2 = 2 ∧ r = (hZ13, [], 2)) ∨ (12 ≤ zs.length ∧ s6' = (zs.drop 12, 0) ∧ FitH ⟨⟨x1, x2, x3⟩, x4, x5, x6⟩ ∧ r = if fitsH ⟨⟨x1, x2, x3⟩, x4, x5, x6⟩ zs.length = true then (⟨⟨x1, x2, x3⟩, x4, x5, x6⟩, zs.drop 12, 0) else (hZ13, [], 4))) := hid (by
    rcases Nat.lt_or_ge zs.length 12 with hs | hs
    · left
      have := headS_short HB.out hs
      rw [EG.out] at this
      exact ⟨this, by rw [HR.out, readL_short hs]⟩
    · right
      obtain ⟨h, hf, he⟩ := head_of HB.out hs
      have hb := headS_be hf (zs.drop 12)
      rw [← he, EG.out] at hb
      injection hb with hb1 hb2
      rw [hb1, hb2]
      refine ⟨hs, rfl, hf, ?_⟩
      rw [HR.out]
      conv => lhs; rw [he]
      rw [readL_head hf]
      have hl12 : 12 + (zs.drop 12).length = zs.length := by rw [List.length_drop]; omega
      rw [hl12])
  clear HR EG
  go_enter Try.func27, Try.ntmps27
  go_wp2_with (first | (refine wpList_is rfl _ _ (exec_alloc 46 #[.int .i64 0, .int .i64 0, .int .i64 0, .int .i64 0, .int .i64 0, .int .i64 0] iRHead rfl) ?_) | (refine wpList_is rfl _ _ (exec_buildRHd rfl) ?_) | (refine wpList_noval rfl _ (exec_storeNew 46 _ _ rfl _ #[.int .i64 0, .int .i64 0, .int .i64 0, .int .i64 0, .int .i64 0, .int .i64 0] #[.int .i64 0, .int .i64 0, .int .i64 0, .int .i64 0, .int .i64 0, .int .i64 0] rfl rfl rfl iRHead rfl (hd_one hZ13)) ?_) | fail)
  rw [← HW2.out]
  rw [← HW0.out]
  first | rw [show w.heap.size + 1 + 1 = q from by have := HQ.out; omega] | rw [show w.heap.size + 2 = q from by have := HQ.out; omega] | rw [← HQQ.out]
  rw [← HP.out]
  have A := E0.out.num 1
  rw [N1.out] at A
  refine A.mono ?_
  rintro e u0 ⟨rfl, ey, kk⟩
  have F0a := hid ((kk.block q L0.out (by have := HP.out; have := HQ.out; simp; omega)).trans J0.out)
  have G0a := hid ((kk.block w.heap.size (by have := L0.out; have := HQ.out; omega) (by have := HP.out; simp; omega)).trans D0.out)
  have T0a := hid ey
  have KU0 := hid (K0.out.trans' kk (fun i hi hm => by simp at hm; have := HP.out; omega))
  have LU0 := hid (Nat.lt_of_lt_of_le L0.out kk.size)
  obtain ⟨cc, ff⟩ := five_cells F0a.out 0
  simp only [List.getElem?_toArray, List.getElem?_cons_zero, List.getElem?_cons_succ] at cc
  clear A ey kk
  have jj := set_five (i := 0) F0a.out (.int .i64 x1)
  have sk : Keeps [q] u0 (u0.setCell ⟨q, 0, none⟩ (.int .i64 x1)) := set_keep
  have J1 : Hid ((u0.setCell ⟨q, 0, none⟩ (.int .i64 x1)).heap[q]? = some (.cells #[.int .i64 x1, .int .i64 0, .int .i64 0, .int .i64 0, .int .i64 0, .int .i64 0] 46 (0, 0))) := hid jj
  have D1 := hid ((sk.block w.heap.size (by have := LU0.out; have := HQ.out; omega) (by have := HQ.out; simp; omega)).trans G0a.out)
  have E1 := hid (T0a.out.later sk (by have := HQ.out; omega) (by have := HP.out; have := HQ.out; omega))
  have K1 := hid (KU0.out.trans' sk (fun i hi hm => by simp at hm; have := HQ.out; omega))
  have L1 := hid (Nat.lt_of_lt_of_le LU0.out sk.size)
  obtain ⟨W1, hW⟩ : ∃ W, W = u0.setCell ⟨q, 0, none⟩ (.int .i64 x1) := ⟨_, rfl⟩
  rw [← hW] at J1 D1 E1 K1 L1
  have HW1 := hid hW
  clear jj sk hW
  go_wp2_with fail
  clear cc ff
  rw [← HW1.out]
  have A := E1.out.num 3
  rw [N2.out] at A
  refine A.mono ?_
  rintro e u1 ⟨rfl, ey, kk⟩
  have F1a := hid ((kk.block q L1.out (by have := HP.out; have := HQ.out; simp; omega)).trans J1.out)
  have G1a := hid ((kk.block w.heap.size (by have := L1.out; have := HQ.out; omega) (by have := HP.out; simp; omega)).trans D1.out)
  have T1a := hid ey
  have KU1 := hid (K1.out.trans' kk (fun i hi hm => by simp at hm; have := HP.out; omega))
  have LU1 := hid (Nat.lt_of_lt_of_le L1.out kk.size)
  obtain ⟨cc, ff⟩ := five_cells F1a.out 1
  simp only [List.getElem?_toArray, List.getElem?_cons_zero, List.getElem?_cons_succ] at cc
  clear A ey kk
  have jj := set_five (i := 1) F1a.out (.int .i64 x2)
  have sk : Keeps [q] u1 (u1.setCell ⟨q, 1, none⟩ (.int .i64 x2)) := set_keep
  have J2 : Hid ((u1.setCell ⟨q, 1, none⟩ (.int .i64 x2)).heap[q]? = some (.cells #[.int .i64 x1, .int .i64 x2, .int .i64 0, .int .i64 0, .int .i64 0, .int .i64 0] 46 (0, 0))) := hid jj
  have D2 := hid ((sk.block w.heap.size (by have := LU1.out; have := HQ.out; omega) (by have := HQ.out; simp; omega)).trans G1a.out)
  have E2 := hid (T1a.out.later sk (by have := HQ.out; omega) (by have := HP.out; have := HQ.out; omega))
  have K2 := hid (KU1.out.trans' sk (fun i hi hm => by simp at hm; have := HQ.out; omega))
  have L2 := hid (Nat.lt_of_lt_of_le LU1.out sk.size)
  obtain ⟨W2, hW⟩ : ∃ W, W = u1.setCell ⟨q, 1, none⟩ (.int .i64 x2) := ⟨_, rfl⟩
  rw [← hW] at J2 D2 E2 K2 L2
  have HW2 := hid hW
  clear jj sk hW
  go_wp2_with fail
  clear cc ff
  rw [← HW2.out]
  have A := E2.out.num 4
  rw [N3.out] at A
  refine A.mono ?_
  rintro e u2 ⟨rfl, ey, kk⟩
  have F2a := hid ((kk.block q L2.out (by have := HP.out; have := HQ.out; simp; omega)).trans J2.out)
  have G2a := hid ((kk.block w.heap.size (by have := L2.out; have := HQ.out; omega) (by have := HP.out; simp; omega)).trans D2.out)
  have T2a := hid ey
  have KU2 := hid (K2.out.trans' kk (fun i hi hm => by simp at hm; have := HP.out; omega))
  have LU2 := hid (Nat.lt_of_lt_of_le L2.out kk.size)
  obtain ⟨cc, ff⟩ := five_cells F2a.out 2
  simp only [List.getElem?_toArray, List.getElem?_cons_zero, List.getElem?_cons_succ] at cc
  clear A ey kk
  have jj := set_five (i := 2) F2a.out (.int .i64 x3)
  have sk : Keeps [q] u2 (u2.setCell ⟨q, 2, none⟩ (.int .i64 x3)) := set_keep
  have J3 : Hid ((u2.setCell ⟨q, 2, none⟩ (.int .i64 x3)).heap[q]? = some (.cells #[.int .i64 x1, .int .i64 x2, .int .i64 x3, .int .i64 0, .int .i64 0, .int .i64 0] 46 (0, 0))) := hid jj
  have D3 := hid ((sk.block w.heap.size (by have := LU2.out; have := HQ.out; omega) (by have := HQ.out; simp; omega)).trans G2a.out)
  have E3 := hid (T2a.out.later sk (by have := HQ.out; omega) (by have := HP.out; have := HQ.out; omega))
  have K3 := hid (KU2.out.trans' sk (fun i hi hm => by simp at hm; have := HQ.out; omega))
  have L3 := hid (Nat.lt_of_lt_of_le LU2.out sk.size)
  obtain ⟨W3, hW⟩ : ∃ W, W = u2.setCell ⟨q, 2, none⟩ (.int .i64 x3) := ⟨_, rfl⟩
  rw [← hW] at J3 D3 E3 K3 L3
  have HW3 := hid hW
  clear jj sk hW
  go_wp2_with fail
  clear cc ff
  rw [← HW3.out]
  have A := E3.out.num 1
  rw [N4.out] at A
  refine A.mono ?_
  rintro e u3 ⟨rfl, ey, kk⟩
  have F3a := hid ((kk.block q L3.out (by have := HP.out; have := HQ.out; simp; omega)).trans J3.out)
  have G3a := hid ((kk.block w.heap.size (by have := L3.out; have := HQ.out; omega) (by have := HP.out; simp; omega)).trans D3.out)
  have T3a := hid ey
  have KU3 := hid (K3.out.trans' kk (fun i hi hm => by simp at hm; have := HP.out; omega))
  have LU3 := hid (Nat.lt_of_lt_of_le L3.out kk.size)
  obtain ⟨cc, ff⟩ := five_cells F3a.out 3
  simp only [List.getElem?_toArray, List.getElem?_cons_zero, List.getElem?_cons_succ] at cc
  clear A ey kk
  have jj := set_five (i := 3) F3a.out (.int .i64 x4)
  have sk : Keeps [q] u3 (u3.setCell ⟨q, 3, none⟩ (.int .i64 x4)) := set_keep
  have J4 : Hid ((u3.setCell ⟨q, 3, none⟩ (.int .i64 x4)).heap[q]? = some (.cells #[.int .i64 x1, .int .i64 x2, .int .i64 x3, .int .i64 x4, .int .i64 0, .int .i64 0] 46 (0, 0))) := hid jj
  have D4 := hid ((sk.block w.heap.size (by have := LU3.out; have := HQ.out; omega) (by have := HQ.out; simp; omega)).trans G3a.out)
  have E4 := hid (T3a.out.later sk (by have := HQ.out; omega) (by have := HP.out; have := HQ.out; omega))
  have K4 := hid (KU3.out.trans' sk (fun i hi hm => by simp at hm; have := HQ.out; omega))
  have L4 := hid (Nat.lt_of_lt_of_le LU3.out sk.size)
  obtain ⟨W4, hW⟩ : ∃ W, W = u3.setCell ⟨q, 3, none⟩ (.int .i64 x4) := ⟨_, rfl⟩
  rw [← hW] at J4 D4 E4 K4 L4
  have HW4 := hid hW
  clear jj sk hW
  go_wp2_with fail
  clear cc ff
  rw [← HW4.out]
  have A := E4.out.num 1
  rw [N5.out] at A
  refine A.mono ?_
  rintro e u4 ⟨rfl, ey, kk⟩
  have F4a := hid ((kk.block q L4.out (by have := HP.out; have := HQ.out; simp; omega)).trans J4.out)
  have G4a := hid ((kk.block w.heap.size (by have := L4.out; have := HQ.out; omega) (by have := HP.out; simp; omega)).trans D4.out)
  have T4a := hid ey
  have KU4 := hid (K4.out.trans' kk (fun i hi hm => by simp at hm; have := HP.out; omega))
  have LU4 := hid (Nat.lt_of_lt_of_le L4.out kk.size)
  obtain ⟨cc, ff⟩ := five_cells F4a.out 4
  simp only [List.getElem?_toArray, List.getElem?_cons_zero, List.getElem?_cons_succ] at cc
  clear A ey kk
  have jj := set_five (i := 4) F4a.out (.int .i64 x5)
  have sk : Keeps [q] u4 (u4.setCell ⟨q, 4, none⟩ (.int .i64 x5)) := set_keep
  have J5 : Hid ((u4.setCell ⟨q, 4, none⟩ (.int .i64 x5)).heap[q]? = some (.cells #[.int .i64 x1, .int .i64 x2, .int .i64 x3, .int .i64 x4, .int .i64 x5, .int .i64 0] 46 (0, 0))) := hid jj
  have D5 := hid ((sk.block w.heap.size (by have := LU4.out; have := HQ.out; omega) (by have := HQ.out; simp; omega)).trans G4a.out)
  have E5 := hid (T4a.out.later sk (by have := HQ.out; omega) (by have := HP.out; have := HQ.out; omega))
  have K5 := hid (KU4.out.trans' sk (fun i hi hm => by simp at hm; have := HQ.out; omega))
  have L5 := hid (Nat.lt_of_lt_of_le LU4.out sk.size)
  obtain ⟨W5, hW⟩ : ∃ W, W = u4.setCell ⟨q, 4, none⟩ (.int .i64 x5) := ⟨_, rfl⟩
  rw [← hW] at J5 D5 E5 K5 L5
  have HW5 := hid hW
  clear jj sk hW
  go_wp2_with fail
  clear cc ff
  rw [← HW5.out]
  have A := E5.out.num 2
  rw [N6.out] at A
  refine A.mono ?_
  rintro e u5 ⟨rfl, ey, kk⟩
  have F5a := hid ((kk.block q L5.out (by have := HP.out; have := HQ.out; simp; omega)).trans J5.out)
  have G5a := hid ((kk.block w.heap.size (by have := L5.out; have := HQ.out; omega) (by have := HP.out; simp; omega)).trans D5.out)
  have T5a := hid ey
  have KU5 := hid (K5.out.trans' kk (fun i hi hm => by simp at hm; have := HP.out; omega))
  have LU5 := hid (Nat.lt_of_lt_of_le L5.out kk.size)
  obtain ⟨cc, ff⟩ := five_cells F5a.out 5
  simp only [List.getElem?_toArray, List.getElem?_cons_zero, List.getElem?_cons_succ] at cc
  clear A ey kk
  have jj := set_five (i := 5) F5a.out (.int .i64 x6)
  have sk : Keeps [q] u5 (u5.setCell ⟨q, 5, none⟩ (.int .i64 x6)) := set_keep
  have J6 : Hid ((u5.setCell ⟨q, 5, none⟩ (.int .i64 x6)).heap[q]? = some (.cells #[.int .i64 x1, .int .i64 x2, .int .i64 x3, .int .i64 x4, .int .i64 x5, .int .i64 x6] 46 (0, 0))) := hid jj
  have D6 := hid ((sk.block w.heap.size (by have := LU5.out; have := HQ.out; omega) (by have := HQ.out; simp; omega)).trans G5a.out)
  have E6 := hid (T5a.out.later sk (by have := HQ.out; omega) (by have := HP.out; have := HQ.out; omega))
  have K6 := hid (KU5.out.trans' sk (fun i hi hm => by simp at hm; have := HQ.out; omega))
  have L6 := hid (Nat.lt_of_lt_of_le LU5.out sk.size)
  obtain ⟨W6, hW6⟩ : ∃ W, W = u5.setCell ⟨q, 5, none⟩ (.int .i64 x6) := ⟨_, rfl⟩
  rw [← hW6] at J6 D6 E6 K6 L6
  have HW6 := hid hW6
  obtain ⟨cp1, fp1⟩ := E6.out.cells
  clear jj sk hW6
  obtain ⟨b6, hb6⟩ : ∃ b, b = s6'.2 := ⟨_, rfl⟩
  rw [← hb6] at cp1
  have HB6 := hid hb6
  clear hb6
  rcases FIN.out with ⟨hb, hr⟩ | ⟨hs, hb, hf, hr⟩
  · obtain rfl : b6 = 2 := by rw [HB6.out]; exact hb
    have HR := hid hr
    have CP1 := hid cp1
    clear hr hb fp1 cp1
    obtain ⟨q1, q2⟩ := setRow_keeps13 (cs := hZ13.cells.toArray) D6.out
    have Q1 := hid (range_cells q1)
    have Q2 := hid (K6.out.trans' q2 (fun i hi hm => by simp at hm; omega))
    have HV := rhd_ret Q1.out
    clear q1 q2
    go_wp2_with (first | (rw [← HW6.out]; refine wpList_isW rfl _ _ (exec_load _ _ _ _ rfl rfl (run_loadCell W6 _ _ _ CP1.out (agg_no _ (by kernel_rfl)))) ?_) | (refine wpList_is rfl _ _ (exec_buildRHd rfl) ?_) | (refine wpList_noval rfl _ (exec_storeRHd _ _ rfl w.heap.size _ D6.out rfl rfl hZ13 rfl) ?_) | fail)
    refine bodyPost_ret (v := .tuple #[hdV13 hZ13, .slice none 0 0, .int .i64 2]) (rrd_ret rfl rfl HV rfl rfl) rfl ?_
    refine ⟨Q2.out, none, 0, ?_, ?_, by simp⟩
    · rw [HR.out]; rfl
    · rw [HR.out]; exact RowAt.nil _
  · obtain rfl : b6 = 0 := by rw [HB6.out, hb]
    obtain ⟨tl, htl⟩ : ∃ t, t = zs.drop 12 := ⟨_, rfl⟩
    have LD := hid (show tl.length = zs.length - 12 by rw [htl]; exact List.length_drop)
    rw [← htl] at hb hr
    clear htl
    have HR := hid hr
    have HF := hid hf
    have HS := hid hs
    have E6z := E6
    rw [hb] at E6z
    obtain ⟨ra, rc, cp0, rp⟩ := E6z.out.row0
    simp only at cp0 rp
    have CP0 := hid cp0
    have RP := hid rp
    have PL := hid (show p < W6.heap.size by have := L6.out; have := HP.out; have := HQ.out; omega)
    have CP1 := hid cp1
    have i0 : 0 ≤ x4 := hf.i.2.2.1
    have z0 : 0 ≤ x6 := hf.z.2.2.1
    have z1 : x6 ≤ 65535 := by have := hf.z.2.2.2; change x6 < 65536 at this; omega
    have i1 : x4 ≤ 255 := by have := hf.i.2.2.2; change x4 < 256 at this; omega
    have n0 : 0 ≤ x5 := hf.k.2.2.1
    have n1 : x5 ≤ 255 := by have := hf.k.2.2.2; change x5 < 256 at this; omega
    clear hr hb fp1 hf hs cp0 rp cp1
    go_wp2_with (first | (rw [← HW6.out]; refine wpList_isW rfl _ _ (exec_load _ _ _ _ rfl rfl (run_loadCell W6 _ _ _ CP1.out (agg_no _ (by kernel_rfl)))) ?_) | fail)
    clear cc ff
    have rS := hid (show ∀ W1, KpS [] W6.heap.size W6.drew W1 → W1.rangeAt q 0 (⟨x1, x2, x3⟩ : Spe).cells from fun W1 h i u hu => h.cell (by rw [World.cell?_drew]; exact range_fst (k := 3) (range_cells (cs := (⟨⟨x1, x2, x3⟩, x4, x5, x6⟩ : Hd13).cells) J6.out) i u hu) L6.out (by simp))
    have rQ := hid (show ∀ W1, KpS [] W6.heap.size W6.drew W1 → W1.rangeAt q 0 (⟨⟨x1, x2, x3⟩, x4, x5, x6⟩ : Hd13).cells from fun W1 h i u hu => h.cell (by rw [World.cell?_drew]; exact (range_cells (cs := (⟨⟨x1, x2, x3⟩, x4, x5, x6⟩ : Hd13).cells) J6.out) i u hu) L6.out (by simp))
    have cQ := hid (show ∀ (i : Nat) (u : Value), (#[.int .i64 x1, .int .i64 x2, .int .i64 x3, .int .i64 x4, .int .i64 x5, .int .i64 x6] : Array Value)[i]? = some u → ∀ W1, KpS [] W6.heap.size W6.drew W1 → W1.cell? ⟨q, i, none⟩ = some u from fun i u hu W1 h => h.cell (by rw [World.cell?_drew, (five_cells J6.out i).1]; exact hu) L6.out (by simp))
    have cE := hid (show ∀ W1, KpS [] W6.heap.size W6.drew W1 → W1.cell? ⟨p, 0, none⟩ = some (.slice ra tl.length rc) from fun W1 h => h.cell (by rw [World.cell?_drew]; exact CP0.out) PL.out (by simp))
    have HMH := hid (show mayH ⟨⟨x1, x2, x3⟩, x4, x5, x6⟩ = (msB x1 x2 x3 && (maySv x5 && btw x6 0 (400 * (x5 - 1))) && btw x4 0 (x5 - 1)) from rfl)
    cases ha : msB x1 x2 x3 with
    | false =>
      have HA := hid ha
      clear ha
      have HF4 := hid (show r = (hZ13, [], 4) by rw [HR.out, if_neg (by unfold fitsH; rw [HMH.out, HA.out]; simp)])
      refine wp_region_any (by kernel_rfl) (wpAny_of_held (S := KpS [] W6.heap.size W6.drew) _ _ _ _ ?_)
      change wpAnyH _ _ _ _ _ _ _ _ W6.drew
      have s0 : KpS [] W6.heap.size W6.drew W6.drew := KpS.refl _ _ _
      refine held_take (i := 0) (v := .pointer (some ⟨q, 0, none⟩)) rfl (by kernel_rfl) (by kernel_rfl) (by kernel_rfl) (fun _ _ _ h => h) rfl (fun W1 hW1 => by go_simp) (KpS.refl _ _ _) ?_
      simp only [Act.put, List.setIfInBounds_toArray, List.set_cons_zero, List.set_cons_succ]
      refine held_take (i := 1) (v := .agg #[.int .i64 x1, .int .i64 x2, .int .i64 x3]) rfl (by kernel_rfl) (by kernel_rfl) (by kernel_rfl) (fun _ _ _ h => h) rfl (fun W1 hW1 => exec_load _ _ _ _ rfl rfl (loadSpe W1 q 0 ⟨x1, x2, x3⟩ (rS.out W1 hW1))) (KpS.refl _ _ _) ?_
      simp only [Act.put, List.setIfInBounds_toArray, List.set_cons_zero, List.set_cons_succ]
      refine held_do (i := 2) (by kernel_rfl) rfl rfl (wp_enter (f := 65) (args := #[.agg #[.int .i64 x1, .int .i64 x2, .int .i64 x3]]) (by go_simp) (rMayStripe_any W6.drew x1 x2 x3 false HA.out) ?_)
      rintro e w8 ⟨rfl, k8⟩
      have kp8 : KpS [] W6.heap.size W6.drew w8 := KpS.keeps s0 k8 (Nat.le_refl _) (by simp)
      refine ⟨_, rfl, kp8, ?_⟩
      simp only [Act.put, List.setIfInBounds_toArray, List.set_cons_zero, List.set_cons_succ]
      refine held_take (i := 3) (v := .bool true) rfl (by kernel_rfl) (by kernel_rfl) (by kernel_rfl) (fun _ _ _ h => h) rfl (fun W1 hW1 => by go_simp) (kp8) ?_
      simp only [Act.put, List.setIfInBounds_toArray, List.set_cons_zero, List.set_cons_succ]
      refine held_take (i := 4) (v := .bool true) rfl (by kernel_rfl) (by kernel_rfl) (by kernel_rfl) (fun _ _ _ h => h) rfl (fun W1 hW1 => by go_simp) (kp8) ?_
      simp only [Act.put, List.setIfInBounds_toArray, List.set_cons_zero, List.set_cons_succ]
      refine held_skip (i := 5) rfl (by kernel_rfl) (by kernel_rfl) (by kernel_rfl) (fun _ _ _ h => h) rfl (kp8) ?_
      simp only [Act.put, List.setIfInBounds_toArray, List.set_cons_zero, List.set_cons_succ]
      refine held_skip (i := 6) rfl (by kernel_rfl) (by kernel_rfl) (by kernel_rfl) (fun _ _ _ h => h) rfl (kp8) ?_
      simp only [Act.put, List.setIfInBounds_toArray, List.set_cons_zero, List.set_cons_succ]
      refine held_skip (i := 7) rfl (by kernel_rfl) (by kernel_rfl) (by kernel_rfl) (fun _ _ _ h => h) rfl (kp8) ?_
      simp only [Act.put, List.setIfInBounds_toArray, List.set_cons_zero, List.set_cons_succ]
      refine held_skip (i := 8) rfl (by kernel_rfl) (by kernel_rfl) (by kernel_rfl) (fun _ _ _ h => h) rfl (kp8) ?_
      simp only [Act.put, List.setIfInBounds_toArray, List.set_cons_zero, List.set_cons_succ]
      refine held_take (i := 9) (v := .bool true) rfl (by kernel_rfl) (by kernel_rfl) (by kernel_rfl) (fun _ _ _ h => h) rfl (fun W1 hW1 => by go_simp) (kp8) ?_
      simp only [Act.put, List.setIfInBounds_toArray, List.set_cons_zero, List.set_cons_succ]
      refine held_take (i := 10) (v := .bool true) rfl (by kernel_rfl) (by kernel_rfl) (by kernel_rfl) (fun _ _ _ h => h) rfl (fun W1 hW1 => by go_simp) (kp8) ?_
      simp only [Act.put, List.setIfInBounds_toArray, List.set_cons_zero, List.set_cons_succ]
      refine held_skip (i := 11) rfl (by kernel_rfl) (by kernel_rfl) (by kernel_rfl) (fun _ _ _ h => h) rfl (kp8) ?_
      simp only [Act.put, List.setIfInBounds_toArray, List.set_cons_zero, List.set_cons_succ]
      refine held_skip (i := 12) rfl (by kernel_rfl) (by kernel_rfl) (by kernel_rfl) (fun _ _ _ h => h) rfl (kp8) ?_
      simp only [Act.put, List.setIfInBounds_toArray, List.set_cons_zero, List.set_cons_succ]
      refine held_skip (i := 13) rfl (by kernel_rfl) (by kernel_rfl) (by kernel_rfl) (fun _ _ _ h => h) rfl (kp8) ?_
      simp only [Act.put, List.setIfInBounds_toArray, List.set_cons_zero, List.set_cons_succ]
      refine held_skip (i := 14) rfl (by kernel_rfl) (by kernel_rfl) (by kernel_rfl) (fun _ _ _ h => h) rfl (kp8) ?_
      simp only [Act.put, List.setIfInBounds_toArray, List.set_cons_zero, List.set_cons_succ]
      refine held_skip (i := 15) rfl (by kernel_rfl) (by kernel_rfl) (by kernel_rfl) (fun _ _ _ h => h) rfl (kp8) ?_
      simp only [Act.put, List.setIfInBounds_toArray, List.set_cons_zero, List.set_cons_succ]
      refine held_take (i := 16) (v := .bool true) rfl (by kernel_rfl) (by kernel_rfl) (by kernel_rfl) (fun _ _ _ h => h) rfl (fun W1 hW1 => by go_simp) (kp8) ?_
      simp only [Act.put, List.setIfInBounds_toArray, List.set_cons_zero, List.set_cons_succ]
      refine held_take (i := 17) (v := .bool true) rfl (by kernel_rfl) (by kernel_rfl) (by kernel_rfl) (fun _ _ _ h => h) rfl (fun W1 hW1 => by go_simp) (kp8) ?_
      simp only [Act.put, List.setIfInBounds_toArray, List.set_cons_zero, List.set_cons_succ]
      refine held_skip (i := 18) rfl (by kernel_rfl) (by kernel_rfl) (by kernel_rfl) (fun _ _ _ h => h) rfl (kp8) ?_
      simp only [Act.put, List.setIfInBounds_toArray, List.set_cons_zero, List.set_cons_succ]
      refine held_skip (i := 19) rfl (by kernel_rfl) (by kernel_rfl) (by kernel_rfl) (fun _ _ _ h => h) rfl (kp8) ?_
      simp only [Act.put, List.setIfInBounds_toArray, List.set_cons_zero, List.set_cons_succ]
      refine held_skip (i := 20) rfl (by kernel_rfl) (by kernel_rfl) (by kernel_rfl) (fun _ _ _ h => h) rfl (kp8) ?_
      simp only [Act.put, List.setIfInBounds_toArray, List.set_cons_zero, List.set_cons_succ]
      refine held_skip (i := 21) rfl (by kernel_rfl) (by kernel_rfl) (by kernel_rfl) (fun _ _ _ h => h) rfl (kp8) ?_
      simp only [Act.put, List.setIfInBounds_toArray, List.set_cons_zero, List.set_cons_succ]
      refine held_skip (i := 22) rfl (by kernel_rfl) (by kernel_rfl) (by kernel_rfl) (fun _ _ _ h => h) rfl (kp8) ?_
      simp only [Act.put, List.setIfInBounds_toArray, List.set_cons_zero, List.set_cons_succ]
      refine held_skip (i := 23) rfl (by kernel_rfl) (by kernel_rfl) (by kernel_rfl) (fun _ _ _ h => h) rfl (kp8) ?_
      simp only [Act.put, List.setIfInBounds_toArray, List.set_cons_zero, List.set_cons_succ]
      refine held_skip (i := 24) rfl (by kernel_rfl) (by kernel_rfl) (by kernel_rfl) (fun _ _ _ h => h) rfl (kp8) ?_
      simp only [Act.put, List.setIfInBounds_toArray, List.set_cons_zero, List.set_cons_succ]
      refine held_take (i := 25) (v := .bool true) rfl (by kernel_rfl) (by kernel_rfl) (by kernel_rfl) (fun _ _ _ h => h) rfl (fun W1 hW1 => by go_simp) (kp8) ?_
      simp only [Act.put, List.setIfInBounds_toArray, List.set_cons_zero, List.set_cons_succ]
      refine held_take (i := 26) (v := .bool true) rfl (by kernel_rfl) (by kernel_rfl) (by kernel_rfl) (fun _ _ _ h => h) rfl (fun W1 hW1 => by go_simp) (kp8) ?_
      simp only [Act.put, List.setIfInBounds_toArray, List.set_cons_zero, List.set_cons_succ]
      refine held_skip (i := 27) rfl (by kernel_rfl) (by kernel_rfl) (by kernel_rfl) (fun _ _ _ h => h) rfl (kp8) ?_
      simp only [Act.put, List.setIfInBounds_toArray, List.set_cons_zero, List.set_cons_succ]
      refine held_skip (i := 28) rfl (by kernel_rfl) (by kernel_rfl) (by kernel_rfl) (fun _ _ _ h => h) rfl (kp8) ?_
      simp only [Act.put, List.setIfInBounds_toArray, List.set_cons_zero, List.set_cons_succ]
      refine held_skip (i := 29) rfl (by kernel_rfl) (by kernel_rfl) (by kernel_rfl) (fun _ _ _ h => h) rfl (kp8) ?_
      simp only [Act.put, List.setIfInBounds_toArray, List.set_cons_zero, List.set_cons_succ]
      refine held_skip (i := 30) rfl (by kernel_rfl) (by kernel_rfl) (by kernel_rfl) (fun _ _ _ h => h) rfl (kp8) ?_
      simp only [Act.put, List.setIfInBounds_toArray, List.set_cons_zero, List.set_cons_succ]
      refine held_skip (i := 31) rfl (by kernel_rfl) (by kernel_rfl) (by kernel_rfl) (fun _ _ _ h => h) rfl (kp8) ?_
      simp only [Act.put, List.setIfInBounds_toArray, List.set_cons_zero, List.set_cons_succ]
      refine held_skip (i := 32) rfl (by kernel_rfl) (by kernel_rfl) (by kernel_rfl) (fun _ _ _ h => h) rfl (kp8) ?_
      simp only [Act.put, List.setIfInBounds_toArray, List.set_cons_zero, List.set_cons_succ]
      refine held_skip (i := 33) rfl (by kernel_rfl) (by kernel_rfl) (by kernel_rfl) (fun _ _ _ h => h) rfl (kp8) ?_
      simp only [Act.put, List.setIfInBounds_toArray, List.set_cons_zero, List.set_cons_succ]
      refine held_skip (i := 34) rfl (by kernel_rfl) (by kernel_rfl) (by kernel_rfl) (fun _ _ _ h => h) rfl (kp8) ?_
      simp only [Act.put, List.setIfInBounds_toArray, List.set_cons_zero, List.set_cons_succ]
      refine held_take (i := 35) (v := .bool true) rfl (by kernel_rfl) (by kernel_rfl) (by kernel_rfl) (fun _ _ _ h => h) rfl (fun W1 hW1 => by go_simp) (kp8) ?_
      simp only [Act.put, List.setIfInBounds_toArray, List.set_cons_zero, List.set_cons_succ]
      refine wpAnyH_done (by kernel_rfl) ?_ _
      have K8 := hid (K6.out.drew.trans k8)
      have D8 := hid ((k8.block w.heap.size (show w.heap.size < W6.heap.size by have := PL.out; have := HP.out; omega) (by simp)).trans D6.out)
      clear s0 kp8 k8
      obtain ⟨q1, q2⟩ := setRow_keeps13 (cs := hZ13.cells.toArray) D8.out
      have Q1 := hid (range_cells q1)
      have Q2 := hid (K8.out.trans' q2 (fun i hi hm => by simp at hm; omega))
      have HV := rhd_ret Q1.out
      clear q1 q2
      go_wp2_with (first | (refine wpList_is rfl _ _ (exec_buildRHd rfl) ?_) | (refine wpList_noval rfl _ (exec_storeRHd _ _ rfl w.heap.size _ D8.out rfl rfl hZ13 rfl) ?_) | fail)
      refine bodyPost_ret (v := .tuple #[hdV13 hZ13, .slice none 0 0, .int .i64 4]) (rrd_ret rfl rfl HV rfl rfl) rfl ?_
      refine ⟨Q2.out, none, 0, ?_, ?_, by simp⟩
      · rw [HF4.out]; rfl
      · rw [HF4.out]; exact RowAt.nil _
    | true =>
      have HA := hid ha
      clear ha
      cases hb : maySv x5 with
      | false =>
        have HB := hid hb
        clear hb
        have HF4 := hid (show r = (hZ13, [], 4) by rw [HR.out, if_neg (by unfold fitsH; rw [HMH.out, HA.out, HB.out]; simp)])
        refine wp_region_any (by kernel_rfl) (wpAny_of_held (S := KpS [] W6.heap.size W6.drew) _ _ _ _ ?_)
        change wpAnyH _ _ _ _ _ _ _ _ W6.drew
        have s0 : KpS [] W6.heap.size W6.drew W6.drew := KpS.refl _ _ _
        refine held_take (i := 0) (v := .pointer (some ⟨q, 0, none⟩)) rfl (by kernel_rfl) (by kernel_rfl) (by kernel_rfl) (fun _ _ _ h => h) rfl (fun W1 hW1 => by go_simp) (KpS.refl _ _ _) ?_
        simp only [Act.put, List.setIfInBounds_toArray, List.set_cons_zero, List.set_cons_succ]
        refine held_take (i := 1) (v := .agg #[.int .i64 x1, .int .i64 x2, .int .i64 x3]) rfl (by kernel_rfl) (by kernel_rfl) (by kernel_rfl) (fun _ _ _ h => h) rfl (fun W1 hW1 => exec_load _ _ _ _ rfl rfl (loadSpe W1 q 0 ⟨x1, x2, x3⟩ (rS.out W1 hW1))) (KpS.refl _ _ _) ?_
        simp only [Act.put, List.setIfInBounds_toArray, List.set_cons_zero, List.set_cons_succ]
        refine held_do (i := 2) (by kernel_rfl) rfl rfl (wp_enter (f := 65) (args := #[.agg #[.int .i64 x1, .int .i64 x2, .int .i64 x3]]) (by go_simp) (rMayStripe_any W6.drew x1 x2 x3 true HA.out) ?_)
        rintro e w8 ⟨rfl, k8⟩
        have kp8 : KpS [] W6.heap.size W6.drew w8 := KpS.keeps s0 k8 (Nat.le_refl _) (by simp)
        refine ⟨_, rfl, kp8, ?_⟩
        simp only [Act.put, List.setIfInBounds_toArray, List.set_cons_zero, List.set_cons_succ]
        refine held_take (i := 3) (v := .bool false) rfl (by kernel_rfl) (by kernel_rfl) (by kernel_rfl) (fun _ _ _ h => h) rfl (fun W1 hW1 => by go_simp) (kp8) ?_
        simp only [Act.put, List.setIfInBounds_toArray, List.set_cons_zero, List.set_cons_succ]
        refine held_take (i := 4) (v := .bool false) rfl (by kernel_rfl) (by kernel_rfl) (by kernel_rfl) (fun _ _ _ h => h) rfl (fun W1 hW1 => by go_simp) (kp8) ?_
        simp only [Act.put, List.setIfInBounds_toArray, List.set_cons_zero, List.set_cons_succ]
        refine held_takeW (i := 5) (v := .pointer (some ⟨q, 4, none⟩)) rfl (by kernel_rfl) (by kernel_rfl) (by kernel_rfl) (fun _ _ _ h => h) rfl (fun W1 hW1 => by go_simp) (kp8) ?_
        simp only [Act.put, List.setIfInBounds_toArray, List.set_cons_zero, List.set_cons_succ]
        refine held_takeW (i := 6) (v := .int .i64 x5) rfl (by kernel_rfl) (by kernel_rfl) (by kernel_rfl) (fun _ _ _ h => h) rfl (fun W1 hW1 => exec_load _ _ _ _ rfl rfl (run_loadCell W1 _ _ _ ((cQ.out 4 _ rfl W1 hW1)) (agg_no _ (by kernel_rfl)))) (kp8) ?_
        simp only [Act.put, List.setIfInBounds_toArray, List.set_cons_zero, List.set_cons_succ]
        refine held_doW (i := 7) (by kernel_rfl) rfl rfl (wp_enter (f := 64) (args := #[.int .i64 x5]) (by go_simp) (rmayn_as _ x5 false HB.out) ?_)
        rintro e _ ⟨rfl, rfl⟩
        refine ⟨_, rfl, kp8, ?_⟩
        simp only [Act.put, List.setIfInBounds_toArray, List.set_cons_zero, List.set_cons_succ]
        refine held_takeW (i := 8) (v := .bool true) rfl (by kernel_rfl) (by kernel_rfl) (by kernel_rfl) (fun _ _ _ h => h) rfl (fun W1 hW1 => by go_simp) (kp8) ?_
        simp only [Act.put, List.setIfInBounds_toArray, List.set_cons_zero, List.set_cons_succ]
        refine held_take (i := 9) (v := .bool true) rfl (by kernel_rfl) (by kernel_rfl) (by kernel_rfl) (fun _ _ _ h => h) rfl (fun W1 hW1 => by go_simp) (kp8) ?_
        simp only [Act.put, List.setIfInBounds_toArray, List.set_cons_zero, List.set_cons_succ]
        refine held_take (i := 10) (v := .bool true) rfl (by kernel_rfl) (by kernel_rfl) (by kernel_rfl) (fun _ _ _ h => h) rfl (fun W1 hW1 => by go_simp) (kp8) ?_
        simp only [Act.put, List.setIfInBounds_toArray, List.set_cons_zero, List.set_cons_succ]
        refine held_skip (i := 11) rfl (by kernel_rfl) (by kernel_rfl) (by kernel_rfl) (fun _ _ _ h => h) rfl (kp8) ?_
        simp only [Act.put, List.setIfInBounds_toArray, List.set_cons_zero, List.set_cons_succ]
        refine held_skip (i := 12) rfl (by kernel_rfl) (by kernel_rfl) (by kernel_rfl) (fun _ _ _ h => h) rfl (kp8) ?_
        simp only [Act.put, List.setIfInBounds_toArray, List.set_cons_zero, List.set_cons_succ]
        refine held_skip (i := 13) rfl (by kernel_rfl) (by kernel_rfl) (by kernel_rfl) (fun _ _ _ h => h) rfl (kp8) ?_
        simp only [Act.put, List.setIfInBounds_toArray, List.set_cons_zero, List.set_cons_succ]
        refine held_skip (i := 14) rfl (by kernel_rfl) (by kernel_rfl) (by kernel_rfl) (fun _ _ _ h => h) rfl (kp8) ?_
        simp only [Act.put, List.setIfInBounds_toArray, List.set_cons_zero, List.set_cons_succ]
        refine held_skip (i := 15) rfl (by kernel_rfl) (by kernel_rfl) (by kernel_rfl) (fun _ _ _ h => h) rfl (kp8) ?_
        simp only [Act.put, List.setIfInBounds_toArray, List.set_cons_zero, List.set_cons_succ]
        refine held_take (i := 16) (v := .bool true) rfl (by kernel_rfl) (by kernel_rfl) (by kernel_rfl) (fun _ _ _ h => h) rfl (fun W1 hW1 => by go_simp) (kp8) ?_
        simp only [Act.put, List.setIfInBounds_toArray, List.set_cons_zero, List.set_cons_succ]
        refine held_take (i := 17) (v := .bool true) rfl (by kernel_rfl) (by kernel_rfl) (by kernel_rfl) (fun _ _ _ h => h) rfl (fun W1 hW1 => by go_simp) (kp8) ?_
        simp only [Act.put, List.setIfInBounds_toArray, List.set_cons_zero, List.set_cons_succ]
        refine held_skip (i := 18) rfl (by kernel_rfl) (by kernel_rfl) (by kernel_rfl) (fun _ _ _ h => h) rfl (kp8) ?_
        simp only [Act.put, List.setIfInBounds_toArray, List.set_cons_zero, List.set_cons_succ]
        refine held_skip (i := 19) rfl (by kernel_rfl) (by kernel_rfl) (by kernel_rfl) (fun _ _ _ h => h) rfl (kp8) ?_
        simp only [Act.put, List.setIfInBounds_toArray, List.set_cons_zero, List.set_cons_succ]
        refine held_skip (i := 20) rfl (by kernel_rfl) (by kernel_rfl) (by kernel_rfl) (fun _ _ _ h => h) rfl (kp8) ?_
        simp only [Act.put, List.setIfInBounds_toArray, List.set_cons_zero, List.set_cons_succ]
        refine held_skip (i := 21) rfl (by kernel_rfl) (by kernel_rfl) (by kernel_rfl) (fun _ _ _ h => h) rfl (kp8) ?_
        simp only [Act.put, List.setIfInBounds_toArray, List.set_cons_zero, List.set_cons_succ]
        refine held_skip (i := 22) rfl (by kernel_rfl) (by kernel_rfl) (by kernel_rfl) (fun _ _ _ h => h) rfl (kp8) ?_
        simp only [Act.put, List.setIfInBounds_toArray, List.set_cons_zero, List.set_cons_succ]
        refine held_skip (i := 23) rfl (by kernel_rfl) (by kernel_rfl) (by kernel_rfl) (fun _ _ _ h => h) rfl (kp8) ?_
        simp only [Act.put, List.setIfInBounds_toArray, List.set_cons_zero, List.set_cons_succ]
        refine held_skip (i := 24) rfl (by kernel_rfl) (by kernel_rfl) (by kernel_rfl) (fun _ _ _ h => h) rfl (kp8) ?_
        simp only [Act.put, List.setIfInBounds_toArray, List.set_cons_zero, List.set_cons_succ]
        refine held_take (i := 25) (v := .bool true) rfl (by kernel_rfl) (by kernel_rfl) (by kernel_rfl) (fun _ _ _ h => h) rfl (fun W1 hW1 => by go_simp) (kp8) ?_
        simp only [Act.put, List.setIfInBounds_toArray, List.set_cons_zero, List.set_cons_succ]
        refine held_take (i := 26) (v := .bool true) rfl (by kernel_rfl) (by kernel_rfl) (by kernel_rfl) (fun _ _ _ h => h) rfl (fun W1 hW1 => by go_simp) (kp8) ?_
        simp only [Act.put, List.setIfInBounds_toArray, List.set_cons_zero, List.set_cons_succ]
        refine held_skip (i := 27) rfl (by kernel_rfl) (by kernel_rfl) (by kernel_rfl) (fun _ _ _ h => h) rfl (kp8) ?_
        simp only [Act.put, List.setIfInBounds_toArray, List.set_cons_zero, List.set_cons_succ]
        refine held_skip (i := 28) rfl (by kernel_rfl) (by kernel_rfl) (by kernel_rfl) (fun _ _ _ h => h) rfl (kp8) ?_
        simp only [Act.put, List.setIfInBounds_toArray, List.set_cons_zero, List.set_cons_succ]
        refine held_skip (i := 29) rfl (by kernel_rfl) (by kernel_rfl) (by kernel_rfl) (fun _ _ _ h => h) rfl (kp8) ?_
        simp only [Act.put, List.setIfInBounds_toArray, List.set_cons_zero, List.set_cons_succ]
        refine held_skip (i := 30) rfl (by kernel_rfl) (by kernel_rfl) (by kernel_rfl) (fun _ _ _ h => h) rfl (kp8) ?_
        simp only [Act.put, List.setIfInBounds_toArray, List.set_cons_zero, List.set_cons_succ]
        refine held_skip (i := 31) rfl (by kernel_rfl) (by kernel_rfl) (by kernel_rfl) (fun _ _ _ h => h) rfl (kp8) ?_
        simp only [Act.put, List.setIfInBounds_toArray, List.set_cons_zero, List.set_cons_succ]
        refine held_skip (i := 32) rfl (by kernel_rfl) (by kernel_rfl) (by kernel_rfl) (fun _ _ _ h => h) rfl (kp8) ?_
        simp only [Act.put, List.setIfInBounds_toArray, List.set_cons_zero, List.set_cons_succ]
        refine held_skip (i := 33) rfl (by kernel_rfl) (by kernel_rfl) (by kernel_rfl) (fun _ _ _ h => h) rfl (kp8) ?_
        simp only [Act.put, List.setIfInBounds_toArray, List.set_cons_zero, List.set_cons_succ]
        refine held_skip (i := 34) rfl (by kernel_rfl) (by kernel_rfl) (by kernel_rfl) (fun _ _ _ h => h) rfl (kp8) ?_
        simp only [Act.put, List.setIfInBounds_toArray, List.set_cons_zero, List.set_cons_succ]
        refine held_take (i := 35) (v := .bool true) rfl (by kernel_rfl) (by kernel_rfl) (by kernel_rfl) (fun _ _ _ h => h) rfl (fun W1 hW1 => by go_simp) (kp8) ?_
        simp only [Act.put, List.setIfInBounds_toArray, List.set_cons_zero, List.set_cons_succ]
        refine wpAnyH_done (by kernel_rfl) ?_ _
        have K8 := hid (K6.out.drew.trans k8)
        have D8 := hid ((k8.block w.heap.size (show w.heap.size < W6.heap.size by have := PL.out; have := HP.out; omega) (by simp)).trans D6.out)
        clear s0 kp8 k8
        obtain ⟨q1, q2⟩ := setRow_keeps13 (cs := hZ13.cells.toArray) D8.out
        have Q1 := hid (range_cells q1)
        have Q2 := hid (K8.out.trans' q2 (fun i hi hm => by simp at hm; omega))
        have HV := rhd_ret Q1.out
        clear q1 q2
        go_wp2_with (first | (refine wpList_is rfl _ _ (exec_buildRHd rfl) ?_) | (refine wpList_noval rfl _ (exec_storeRHd _ _ rfl w.heap.size _ D8.out rfl rfl hZ13 rfl) ?_) | fail)
        refine bodyPost_ret (v := .tuple #[hdV13 hZ13, .slice none 0 0, .int .i64 4]) (rrd_ret rfl rfl HV rfl rfl) rfl ?_
        refine ⟨Q2.out, none, 0, ?_, ?_, by simp⟩
        · rw [HF4.out]; rfl
        · rw [HF4.out]; exact RowAt.nil _
      | true =>
        have HB := hid hb
        obtain ⟨n3, n16⟩ := maySv_is.1 hb
        clear hb
        have wE1 : IntKind.i64.wrap (x5 - 1) = x5 - 1 := IntWalk.i64_in _ (by omega)
        have wE2 : IntKind.i64.wrap (400 * (x5 - 1)) = 400 * (x5 - 1) := IntWalk.i64_in _ (by omega)
        by_cases hc : x5 ≤ x4
        · have HF4 := hid (show r = (hZ13, [], 4) by rw [HR.out, if_neg (by unfold fitsH; rw [HMH.out]; unfold btw; rw [decide_eq_false (p := x4 ≤ x5 - 1) (by omega)]; simp)])
          refine wp_region_any (by kernel_rfl) (wpAny_of_held (S := KpS [] W6.heap.size W6.drew) _ _ _ _ ?_)
          change wpAnyH _ _ _ _ _ _ _ _ W6.drew
          have s0 : KpS [] W6.heap.size W6.drew W6.drew := KpS.refl _ _ _
          refine held_take (i := 0) (v := .pointer (some ⟨q, 0, none⟩)) rfl (by kernel_rfl) (by kernel_rfl) (by kernel_rfl) (fun _ _ _ h => h) rfl (fun W1 hW1 => by go_simp) (KpS.refl _ _ _) ?_
          simp only [Act.put, List.setIfInBounds_toArray, List.set_cons_zero, List.set_cons_succ]
          refine held_take (i := 1) (v := .agg #[.int .i64 x1, .int .i64 x2, .int .i64 x3]) rfl (by kernel_rfl) (by kernel_rfl) (by kernel_rfl) (fun _ _ _ h => h) rfl (fun W1 hW1 => exec_load _ _ _ _ rfl rfl (loadSpe W1 q 0 ⟨x1, x2, x3⟩ (rS.out W1 hW1))) (KpS.refl _ _ _) ?_
          simp only [Act.put, List.setIfInBounds_toArray, List.set_cons_zero, List.set_cons_succ]
          refine held_do (i := 2) (by kernel_rfl) rfl rfl (wp_enter (f := 65) (args := #[.agg #[.int .i64 x1, .int .i64 x2, .int .i64 x3]]) (by go_simp) (rMayStripe_any W6.drew x1 x2 x3 true HA.out) ?_)
          rintro e w8 ⟨rfl, k8⟩
          have kp8 : KpS [] W6.heap.size W6.drew w8 := KpS.keeps s0 k8 (Nat.le_refl _) (by simp)
          refine ⟨_, rfl, kp8, ?_⟩
          simp only [Act.put, List.setIfInBounds_toArray, List.set_cons_zero, List.set_cons_succ]
          refine held_take (i := 3) (v := .bool false) rfl (by kernel_rfl) (by kernel_rfl) (by kernel_rfl) (fun _ _ _ h => h) rfl (fun W1 hW1 => by go_simp) (kp8) ?_
          simp only [Act.put, List.setIfInBounds_toArray, List.set_cons_zero, List.set_cons_succ]
          refine held_take (i := 4) (v := .bool false) rfl (by kernel_rfl) (by kernel_rfl) (by kernel_rfl) (fun _ _ _ h => h) rfl (fun W1 hW1 => by go_simp) (kp8) ?_
          simp only [Act.put, List.setIfInBounds_toArray, List.set_cons_zero, List.set_cons_succ]
          refine held_takeW (i := 5) (v := .pointer (some ⟨q, 4, none⟩)) rfl (by kernel_rfl) (by kernel_rfl) (by kernel_rfl) (fun _ _ _ h => h) rfl (fun W1 hW1 => by go_simp) (kp8) ?_
          simp only [Act.put, List.setIfInBounds_toArray, List.set_cons_zero, List.set_cons_succ]
          refine held_takeW (i := 6) (v := .int .i64 x5) rfl (by kernel_rfl) (by kernel_rfl) (by kernel_rfl) (fun _ _ _ h => h) rfl (fun W1 hW1 => exec_load _ _ _ _ rfl rfl (run_loadCell W1 _ _ _ ((cQ.out 4 _ rfl W1 hW1)) (agg_no _ (by kernel_rfl)))) (kp8) ?_
          simp only [Act.put, List.setIfInBounds_toArray, List.set_cons_zero, List.set_cons_succ]
          refine held_doW (i := 7) (by kernel_rfl) rfl rfl (wp_enter (f := 64) (args := #[.int .i64 x5]) (by go_simp) (rmayn_as _ x5 true HB.out) ?_)
          rintro e _ ⟨rfl, rfl⟩
          refine ⟨_, rfl, kp8, ?_⟩
          simp only [Act.put, List.setIfInBounds_toArray, List.set_cons_zero, List.set_cons_succ]
          refine held_takeW (i := 8) (v := .bool false) rfl (by kernel_rfl) (by kernel_rfl) (by kernel_rfl) (fun _ _ _ h => h) rfl (fun W1 hW1 => by go_simp) (kp8) ?_
          simp only [Act.put, List.setIfInBounds_toArray, List.set_cons_zero, List.set_cons_succ]
          refine held_take (i := 9) (v := .bool false) rfl (by kernel_rfl) (by kernel_rfl) (by kernel_rfl) (fun _ _ _ h => h) rfl (fun W1 hW1 => by go_simp) (kp8) ?_
          simp only [Act.put, List.setIfInBounds_toArray, List.set_cons_zero, List.set_cons_succ]
          refine held_take (i := 10) (v := .bool false) rfl (by kernel_rfl) (by kernel_rfl) (by kernel_rfl) (fun _ _ _ h => h) rfl (fun W1 hW1 => by go_simp) (kp8) ?_
          simp only [Act.put, List.setIfInBounds_toArray, List.set_cons_zero, List.set_cons_succ]
          refine held_takeW (i := 11) (v := .pointer (some ⟨q, 3, none⟩)) rfl (by kernel_rfl) (by kernel_rfl) (by kernel_rfl) (fun _ _ _ h => h) rfl (fun W1 hW1 => by go_simp) (kp8) ?_
          simp only [Act.put, List.setIfInBounds_toArray, List.set_cons_zero, List.set_cons_succ]
          refine held_takeW (i := 12) (v := .int .i64 x4) rfl (by kernel_rfl) (by kernel_rfl) (by kernel_rfl) (fun _ _ _ h => h) rfl (fun W1 hW1 => exec_load _ _ _ _ rfl rfl (run_loadCell W1 _ _ _ ((cQ.out 3 _ rfl W1 hW1)) (agg_no _ (by kernel_rfl)))) (kp8) ?_
          simp only [Act.put, List.setIfInBounds_toArray, List.set_cons_zero, List.set_cons_succ]
          refine held_takeW (i := 13) (v := .pointer (some ⟨q, 4, none⟩)) rfl (by kernel_rfl) (by kernel_rfl) (by kernel_rfl) (fun _ _ _ h => h) rfl (fun W1 hW1 => by go_simp) (kp8) ?_
          simp only [Act.put, List.setIfInBounds_toArray, List.set_cons_zero, List.set_cons_succ]
          refine held_takeW (i := 14) (v := .int .i64 x5) rfl (by kernel_rfl) (by kernel_rfl) (by kernel_rfl) (fun _ _ _ h => h) rfl (fun W1 hW1 => exec_load _ _ _ _ rfl rfl (run_loadCell W1 _ _ _ ((cQ.out 4 _ rfl W1 hW1)) (agg_no _ (by kernel_rfl)))) (kp8) ?_
          simp only [Act.put, List.setIfInBounds_toArray, List.set_cons_zero, List.set_cons_succ]
          refine held_takeW (i := 15) (v := .bool true) rfl (by kernel_rfl) (by kernel_rfl) (by kernel_rfl) (fun _ _ _ h => h) rfl (fun W1 hW1 => by go_simp) (kp8) ?_
          simp only [Act.put, List.setIfInBounds_toArray, List.set_cons_zero, List.set_cons_succ]
          refine held_take (i := 16) (v := .bool true) rfl (by kernel_rfl) (by kernel_rfl) (by kernel_rfl) (fun _ _ _ h => h) rfl (fun W1 hW1 => by go_simp) (kp8) ?_
          simp only [Act.put, List.setIfInBounds_toArray, List.set_cons_zero, List.set_cons_succ]
          refine held_take (i := 17) (v := .bool true) rfl (by kernel_rfl) (by kernel_rfl) (by kernel_rfl) (fun _ _ _ h => h) rfl (fun W1 hW1 => by go_simp) (kp8) ?_
          simp only [Act.put, List.setIfInBounds_toArray, List.set_cons_zero, List.set_cons_succ]
          refine held_skip (i := 18) rfl (by kernel_rfl) (by kernel_rfl) (by kernel_rfl) (fun _ _ _ h => h) rfl (kp8) ?_
          simp only [Act.put, List.setIfInBounds_toArray, List.set_cons_zero, List.set_cons_succ]
          refine held_skip (i := 19) rfl (by kernel_rfl) (by kernel_rfl) (by kernel_rfl) (fun _ _ _ h => h) rfl (kp8) ?_
          simp only [Act.put, List.setIfInBounds_toArray, List.set_cons_zero, List.set_cons_succ]
          refine held_skip (i := 20) rfl (by kernel_rfl) (by kernel_rfl) (by kernel_rfl) (fun _ _ _ h => h) rfl (kp8) ?_
          simp only [Act.put, List.setIfInBounds_toArray, List.set_cons_zero, List.set_cons_succ]
          refine held_skip (i := 21) rfl (by kernel_rfl) (by kernel_rfl) (by kernel_rfl) (fun _ _ _ h => h) rfl (kp8) ?_
          simp only [Act.put, List.setIfInBounds_toArray, List.set_cons_zero, List.set_cons_succ]
          refine held_skip (i := 22) rfl (by kernel_rfl) (by kernel_rfl) (by kernel_rfl) (fun _ _ _ h => h) rfl (kp8) ?_
          simp only [Act.put, List.setIfInBounds_toArray, List.set_cons_zero, List.set_cons_succ]
          refine held_skip (i := 23) rfl (by kernel_rfl) (by kernel_rfl) (by kernel_rfl) (fun _ _ _ h => h) rfl (kp8) ?_
          simp only [Act.put, List.setIfInBounds_toArray, List.set_cons_zero, List.set_cons_succ]
          refine held_skip (i := 24) rfl (by kernel_rfl) (by kernel_rfl) (by kernel_rfl) (fun _ _ _ h => h) rfl (kp8) ?_
          simp only [Act.put, List.setIfInBounds_toArray, List.set_cons_zero, List.set_cons_succ]
          refine held_take (i := 25) (v := .bool true) rfl (by kernel_rfl) (by kernel_rfl) (by kernel_rfl) (fun _ _ _ h => h) rfl (fun W1 hW1 => by go_simp) (kp8) ?_
          simp only [Act.put, List.setIfInBounds_toArray, List.set_cons_zero, List.set_cons_succ]
          refine held_take (i := 26) (v := .bool true) rfl (by kernel_rfl) (by kernel_rfl) (by kernel_rfl) (fun _ _ _ h => h) rfl (fun W1 hW1 => by go_simp) (kp8) ?_
          simp only [Act.put, List.setIfInBounds_toArray, List.set_cons_zero, List.set_cons_succ]
          refine held_skip (i := 27) rfl (by kernel_rfl) (by kernel_rfl) (by kernel_rfl) (fun _ _ _ h => h) rfl (kp8) ?_
          simp only [Act.put, List.setIfInBounds_toArray, List.set_cons_zero, List.set_cons_succ]
          refine held_skip (i := 28) rfl (by kernel_rfl) (by kernel_rfl) (by kernel_rfl) (fun _ _ _ h => h) rfl (kp8) ?_
          simp only [Act.put, List.setIfInBounds_toArray, List.set_cons_zero, List.set_cons_succ]
          refine held_skip (i := 29) rfl (by kernel_rfl) (by kernel_rfl) (by kernel_rfl) (fun _ _ _ h => h) rfl (kp8) ?_
          simp only [Act.put, List.setIfInBounds_toArray, List.set_cons_zero, List.set_cons_succ]
          refine held_skip (i := 30) rfl (by kernel_rfl) (by kernel_rfl) (by kernel_rfl) (fun _ _ _ h => h) rfl (kp8) ?_
          simp only [Act.put, List.setIfInBounds_toArray, List.set_cons_zero, List.set_cons_succ]
          refine held_skip (i := 31) rfl (by kernel_rfl) (by kernel_rfl) (by kernel_rfl) (fun _ _ _ h => h) rfl (kp8) ?_
          simp only [Act.put, List.setIfInBounds_toArray, List.set_cons_zero, List.set_cons_succ]
          refine held_skip (i := 32) rfl (by kernel_rfl) (by kernel_rfl) (by kernel_rfl) (fun _ _ _ h => h) rfl (kp8) ?_
          simp only [Act.put, List.setIfInBounds_toArray, List.set_cons_zero, List.set_cons_succ]
          refine held_skip (i := 33) rfl (by kernel_rfl) (by kernel_rfl) (by kernel_rfl) (fun _ _ _ h => h) rfl (kp8) ?_
          simp only [Act.put, List.setIfInBounds_toArray, List.set_cons_zero, List.set_cons_succ]
          refine held_skip (i := 34) rfl (by kernel_rfl) (by kernel_rfl) (by kernel_rfl) (fun _ _ _ h => h) rfl (kp8) ?_
          simp only [Act.put, List.setIfInBounds_toArray, List.set_cons_zero, List.set_cons_succ]
          refine held_take (i := 35) (v := .bool true) rfl (by kernel_rfl) (by kernel_rfl) (by kernel_rfl) (fun _ _ _ h => h) rfl (fun W1 hW1 => by go_simp) (kp8) ?_
          simp only [Act.put, List.setIfInBounds_toArray, List.set_cons_zero, List.set_cons_succ]
          refine wpAnyH_done (by kernel_rfl) ?_ _
          have K8 := hid (K6.out.drew.trans k8)
          have D8 := hid ((k8.block w.heap.size (show w.heap.size < W6.heap.size by have := PL.out; have := HP.out; omega) (by simp)).trans D6.out)
          clear s0 kp8 k8
          obtain ⟨q1, q2⟩ := setRow_keeps13 (cs := hZ13.cells.toArray) D8.out
          have Q1 := hid (range_cells q1)
          have Q2 := hid (K8.out.trans' q2 (fun i hi hm => by simp at hm; omega))
          have HV := rhd_ret Q1.out
          clear q1 q2
          go_wp2_with (first | (refine wpList_is rfl _ _ (exec_buildRHd rfl) ?_) | (refine wpList_noval rfl _ (exec_storeRHd _ _ rfl w.heap.size _ D8.out rfl rfl hZ13 rfl) ?_) | fail)
          refine bodyPost_ret (v := .tuple #[hdV13 hZ13, .slice none 0 0, .int .i64 4]) (rrd_ret rfl rfl HV rfl rfl) rfl ?_
          refine ⟨Q2.out, none, 0, ?_, ?_, by simp⟩
          · rw [HF4.out]; rfl
          · rw [HF4.out]; exact RowAt.nil _
        · by_cases hd : 400 * (x5 - 1) < x6
          · have HF4 := hid (show r = (hZ13, [], 4) by rw [HR.out, if_neg (by unfold fitsH; rw [HMH.out]; unfold btw; rw [decide_eq_false (p := x6 ≤ 400 * (x5 - 1)) (by omega)]; simp)])
            refine wp_region_any (by kernel_rfl) (wpAny_of_held (S := KpS [] W6.heap.size W6.drew) _ _ _ _ ?_)
            change wpAnyH _ _ _ _ _ _ _ _ W6.drew
            have s0 : KpS [] W6.heap.size W6.drew W6.drew := KpS.refl _ _ _
            refine held_take (i := 0) (v := .pointer (some ⟨q, 0, none⟩)) rfl (by kernel_rfl) (by kernel_rfl) (by kernel_rfl) (fun _ _ _ h => h) rfl (fun W1 hW1 => by go_simp) (KpS.refl _ _ _) ?_
            simp only [Act.put, List.setIfInBounds_toArray, List.set_cons_zero, List.set_cons_succ]
            refine held_take (i := 1) (v := .agg #[.int .i64 x1, .int .i64 x2, .int .i64 x3]) rfl (by kernel_rfl) (by kernel_rfl) (by kernel_rfl) (fun _ _ _ h => h) rfl (fun W1 hW1 => exec_load _ _ _ _ rfl rfl (loadSpe W1 q 0 ⟨x1, x2, x3⟩ (rS.out W1 hW1))) (KpS.refl _ _ _) ?_
            simp only [Act.put, List.setIfInBounds_toArray, List.set_cons_zero, List.set_cons_succ]
            refine held_do (i := 2) (by kernel_rfl) rfl rfl (wp_enter (f := 65) (args := #[.agg #[.int .i64 x1, .int .i64 x2, .int .i64 x3]]) (by go_simp) (rMayStripe_any W6.drew x1 x2 x3 true HA.out) ?_)
            rintro e w8 ⟨rfl, k8⟩
            have kp8 : KpS [] W6.heap.size W6.drew w8 := KpS.keeps s0 k8 (Nat.le_refl _) (by simp)
            refine ⟨_, rfl, kp8, ?_⟩
            simp only [Act.put, List.setIfInBounds_toArray, List.set_cons_zero, List.set_cons_succ]
            refine held_take (i := 3) (v := .bool false) rfl (by kernel_rfl) (by kernel_rfl) (by kernel_rfl) (fun _ _ _ h => h) rfl (fun W1 hW1 => by go_simp) (kp8) ?_
            simp only [Act.put, List.setIfInBounds_toArray, List.set_cons_zero, List.set_cons_succ]
            refine held_take (i := 4) (v := .bool false) rfl (by kernel_rfl) (by kernel_rfl) (by kernel_rfl) (fun _ _ _ h => h) rfl (fun W1 hW1 => by go_simp) (kp8) ?_
            simp only [Act.put, List.setIfInBounds_toArray, List.set_cons_zero, List.set_cons_succ]
            refine held_takeW (i := 5) (v := .pointer (some ⟨q, 4, none⟩)) rfl (by kernel_rfl) (by kernel_rfl) (by kernel_rfl) (fun _ _ _ h => h) rfl (fun W1 hW1 => by go_simp) (kp8) ?_
            simp only [Act.put, List.setIfInBounds_toArray, List.set_cons_zero, List.set_cons_succ]
            refine held_takeW (i := 6) (v := .int .i64 x5) rfl (by kernel_rfl) (by kernel_rfl) (by kernel_rfl) (fun _ _ _ h => h) rfl (fun W1 hW1 => exec_load _ _ _ _ rfl rfl (run_loadCell W1 _ _ _ ((cQ.out 4 _ rfl W1 hW1)) (agg_no _ (by kernel_rfl)))) (kp8) ?_
            simp only [Act.put, List.setIfInBounds_toArray, List.set_cons_zero, List.set_cons_succ]
            refine held_doW (i := 7) (by kernel_rfl) rfl rfl (wp_enter (f := 64) (args := #[.int .i64 x5]) (by go_simp) (rmayn_as _ x5 true HB.out) ?_)
            rintro e _ ⟨rfl, rfl⟩
            refine ⟨_, rfl, kp8, ?_⟩
            simp only [Act.put, List.setIfInBounds_toArray, List.set_cons_zero, List.set_cons_succ]
            refine held_takeW (i := 8) (v := .bool false) rfl (by kernel_rfl) (by kernel_rfl) (by kernel_rfl) (fun _ _ _ h => h) rfl (fun W1 hW1 => by go_simp) (kp8) ?_
            simp only [Act.put, List.setIfInBounds_toArray, List.set_cons_zero, List.set_cons_succ]
            refine held_take (i := 9) (v := .bool false) rfl (by kernel_rfl) (by kernel_rfl) (by kernel_rfl) (fun _ _ _ h => h) rfl (fun W1 hW1 => by go_simp) (kp8) ?_
            simp only [Act.put, List.setIfInBounds_toArray, List.set_cons_zero, List.set_cons_succ]
            refine held_take (i := 10) (v := .bool false) rfl (by kernel_rfl) (by kernel_rfl) (by kernel_rfl) (fun _ _ _ h => h) rfl (fun W1 hW1 => by go_simp) (kp8) ?_
            simp only [Act.put, List.setIfInBounds_toArray, List.set_cons_zero, List.set_cons_succ]
            refine held_takeW (i := 11) (v := .pointer (some ⟨q, 3, none⟩)) rfl (by kernel_rfl) (by kernel_rfl) (by kernel_rfl) (fun _ _ _ h => h) rfl (fun W1 hW1 => by go_simp) (kp8) ?_
            simp only [Act.put, List.setIfInBounds_toArray, List.set_cons_zero, List.set_cons_succ]
            refine held_takeW (i := 12) (v := .int .i64 x4) rfl (by kernel_rfl) (by kernel_rfl) (by kernel_rfl) (fun _ _ _ h => h) rfl (fun W1 hW1 => exec_load _ _ _ _ rfl rfl (run_loadCell W1 _ _ _ ((cQ.out 3 _ rfl W1 hW1)) (agg_no _ (by kernel_rfl)))) (kp8) ?_
            simp only [Act.put, List.setIfInBounds_toArray, List.set_cons_zero, List.set_cons_succ]
            refine held_takeW (i := 13) (v := .pointer (some ⟨q, 4, none⟩)) rfl (by kernel_rfl) (by kernel_rfl) (by kernel_rfl) (fun _ _ _ h => h) rfl (fun W1 hW1 => by go_simp) (kp8) ?_
            simp only [Act.put, List.setIfInBounds_toArray, List.set_cons_zero, List.set_cons_succ]
            refine held_takeW (i := 14) (v := .int .i64 x5) rfl (by kernel_rfl) (by kernel_rfl) (by kernel_rfl) (fun _ _ _ h => h) rfl (fun W1 hW1 => exec_load _ _ _ _ rfl rfl (run_loadCell W1 _ _ _ ((cQ.out 4 _ rfl W1 hW1)) (agg_no _ (by kernel_rfl)))) (kp8) ?_
            simp only [Act.put, List.setIfInBounds_toArray, List.set_cons_zero, List.set_cons_succ]
            refine held_takeW (i := 15) (v := .bool false) rfl (by kernel_rfl) (by kernel_rfl) (by kernel_rfl) (fun _ _ _ h => h) rfl (fun W1 hW1 => by go_simp) (kp8) ?_
            simp only [Act.put, List.setIfInBounds_toArray, List.set_cons_zero, List.set_cons_succ]
            refine held_take (i := 16) (v := .bool false) rfl (by kernel_rfl) (by kernel_rfl) (by kernel_rfl) (fun _ _ _ h => h) rfl (fun W1 hW1 => by go_simp) (kp8) ?_
            simp only [Act.put, List.setIfInBounds_toArray, List.set_cons_zero, List.set_cons_succ]
            refine held_take (i := 17) (v := .bool false) rfl (by kernel_rfl) (by kernel_rfl) (by kernel_rfl) (fun _ _ _ h => h) rfl (fun W1 hW1 => by go_simp) (kp8) ?_
            simp only [Act.put, List.setIfInBounds_toArray, List.set_cons_zero, List.set_cons_succ]
            refine held_takeW (i := 18) (v := .pointer (some ⟨q, 5, none⟩)) rfl (by kernel_rfl) (by kernel_rfl) (by kernel_rfl) (fun _ _ _ h => h) rfl (fun W1 hW1 => by go_simp) (kp8) ?_
            simp only [Act.put, List.setIfInBounds_toArray, List.set_cons_zero, List.set_cons_succ]
            refine held_takeW (i := 19) (v := .int .i64 x6) rfl (by kernel_rfl) (by kernel_rfl) (by kernel_rfl) (fun _ _ _ h => h) rfl (fun W1 hW1 => exec_load _ _ _ _ rfl rfl (run_loadCell W1 _ _ _ ((cQ.out 5 _ rfl W1 hW1)) (agg_no _ (by kernel_rfl)))) (kp8) ?_
            simp only [Act.put, List.setIfInBounds_toArray, List.set_cons_zero, List.set_cons_succ]
            refine held_takeW (i := 20) (v := .pointer (some ⟨q, 4, none⟩)) rfl (by kernel_rfl) (by kernel_rfl) (by kernel_rfl) (fun _ _ _ h => h) rfl (fun W1 hW1 => by go_simp) (kp8) ?_
            simp only [Act.put, List.setIfInBounds_toArray, List.set_cons_zero, List.set_cons_succ]
            refine held_takeW (i := 21) (v := .int .i64 x5) rfl (by kernel_rfl) (by kernel_rfl) (by kernel_rfl) (fun _ _ _ h => h) rfl (fun W1 hW1 => exec_load _ _ _ _ rfl rfl (run_loadCell W1 _ _ _ ((cQ.out 4 _ rfl W1 hW1)) (agg_no _ (by kernel_rfl)))) (kp8) ?_
            simp only [Act.put, List.setIfInBounds_toArray, List.set_cons_zero, List.set_cons_succ]
            refine held_takeW (i := 22) (v := .int .i64 (x5 - 1)) rfl (by kernel_rfl) (by kernel_rfl) (by kernel_rfl) (fun _ _ _ h => h) rfl (fun W1 hW1 => by go_simp) (kp8) ?_
            simp only [Act.put, List.setIfInBounds_toArray, List.set_cons_zero, List.set_cons_succ]
            refine held_takeW (i := 23) (v := .int .i64 (400 * (x5 - 1))) rfl (by kernel_rfl) (by kernel_rfl) (by kernel_rfl) (fun _ _ _ h => h) rfl (fun W1 hW1 => by go_simp) (kp8) ?_
            simp only [Act.put, List.setIfInBounds_toArray, List.set_cons_zero, List.set_cons_succ]
            refine held_takeW (i := 24) (v := .bool true) rfl (by kernel_rfl) (by kernel_rfl) (by kernel_rfl) (fun _ _ _ h => h) rfl (fun W1 hW1 => by go_simp) (kp8) ?_
            simp only [Act.put, List.setIfInBounds_toArray, List.set_cons_zero, List.set_cons_succ]
            refine held_take (i := 25) (v := .bool true) rfl (by kernel_rfl) (by kernel_rfl) (by kernel_rfl) (fun _ _ _ h => h) rfl (fun W1 hW1 => by go_simp) (kp8) ?_
            simp only [Act.put, List.setIfInBounds_toArray, List.set_cons_zero, List.set_cons_succ]
            refine held_take (i := 26) (v := .bool true) rfl (by kernel_rfl) (by kernel_rfl) (by kernel_rfl) (fun _ _ _ h => h) rfl (fun W1 hW1 => by go_simp) (kp8) ?_
            simp only [Act.put, List.setIfInBounds_toArray, List.set_cons_zero, List.set_cons_succ]
            refine held_skip (i := 27) rfl (by kernel_rfl) (by kernel_rfl) (by kernel_rfl) (fun _ _ _ h => h) rfl (kp8) ?_
            simp only [Act.put, List.setIfInBounds_toArray, List.set_cons_zero, List.set_cons_succ]
            refine held_skip (i := 28) rfl (by kernel_rfl) (by kernel_rfl) (by kernel_rfl) (fun _ _ _ h => h) rfl (kp8) ?_
            simp only [Act.put, List.setIfInBounds_toArray, List.set_cons_zero, List.set_cons_succ]
            refine held_skip (i := 29) rfl (by kernel_rfl) (by kernel_rfl) (by kernel_rfl) (fun _ _ _ h => h) rfl (kp8) ?_
            simp only [Act.put, List.setIfInBounds_toArray, List.set_cons_zero, List.set_cons_succ]
            refine held_skip (i := 30) rfl (by kernel_rfl) (by kernel_rfl) (by kernel_rfl) (fun _ _ _ h => h) rfl (kp8) ?_
            simp only [Act.put, List.setIfInBounds_toArray, List.set_cons_zero, List.set_cons_succ]
            refine held_skip (i := 31) rfl (by kernel_rfl) (by kernel_rfl) (by kernel_rfl) (fun _ _ _ h => h) rfl (kp8) ?_
            simp only [Act.put, List.setIfInBounds_toArray, List.set_cons_zero, List.set_cons_succ]
            refine held_skip (i := 32) rfl (by kernel_rfl) (by kernel_rfl) (by kernel_rfl) (fun _ _ _ h => h) rfl (kp8) ?_
            simp only [Act.put, List.setIfInBounds_toArray, List.set_cons_zero, List.set_cons_succ]
            refine held_skip (i := 33) rfl (by kernel_rfl) (by kernel_rfl) (by kernel_rfl) (fun _ _ _ h => h) rfl (kp8) ?_
            simp only [Act.put, List.setIfInBounds_toArray, List.set_cons_zero, List.set_cons_succ]
            refine held_skip (i := 34) rfl (by kernel_rfl) (by kernel_rfl) (by kernel_rfl) (fun _ _ _ h => h) rfl (kp8) ?_
            simp only [Act.put, List.setIfInBounds_toArray, List.set_cons_zero, List.set_cons_succ]
            refine held_take (i := 35) (v := .bool true) rfl (by kernel_rfl) (by kernel_rfl) (by kernel_rfl) (fun _ _ _ h => h) rfl (fun W1 hW1 => by go_simp) (kp8) ?_
            simp only [Act.put, List.setIfInBounds_toArray, List.set_cons_zero, List.set_cons_succ]
            refine wpAnyH_done (by kernel_rfl) ?_ _
            have K8 := hid (K6.out.drew.trans k8)
            have D8 := hid ((k8.block w.heap.size (show w.heap.size < W6.heap.size by have := PL.out; have := HP.out; omega) (by simp)).trans D6.out)
            clear s0 kp8 k8
            obtain ⟨q1, q2⟩ := setRow_keeps13 (cs := hZ13.cells.toArray) D8.out
            have Q1 := hid (range_cells q1)
            have Q2 := hid (K8.out.trans' q2 (fun i hi hm => by simp at hm; omega))
            have HV := rhd_ret Q1.out
            clear q1 q2
            go_wp2_with (first | (refine wpList_is rfl _ _ (exec_buildRHd rfl) ?_) | (refine wpList_noval rfl _ (exec_storeRHd _ _ rfl w.heap.size _ D8.out rfl rfl hZ13 rfl) ?_) | fail)
            refine bodyPost_ret (v := .tuple #[hdV13 hZ13, .slice none 0 0, .int .i64 4]) (rrd_ret rfl rfl HV rfl rfl) rfl ?_
            refine ⟨Q2.out, none, 0, ?_, ?_, by simp⟩
            · rw [HF4.out]; rfl
            · rw [HF4.out]; exact RowAt.nil _
          · have hmh : mayH ⟨⟨x1, x2, x3⟩, x4, x5, x6⟩ = true := by
              rw [HMH.out, HA.out, HB.out, Bool.true_and, Bool.true_and, Bool.and_eq_true, btw_is, btw_is]
              omega
            have HSM := hid (mayH_small hmh).1
            have HIN := hid (mayH_small hmh).2.2
            have HM := hid hmh
            obtain ⟨lg, hlg⟩ : ∃ l : Int, l = longI x4 x6 x5 := ⟨_, rfl⟩
            have HLG := hid hlg
            clear hmh hlg
            by_cases he : (tl.length : Int) = lg
            · have heb : ((tl.length : Int) != lg) = false := by simpa using he
              have HE := hid he
              clear he
              have HF := hid (show r = (⟨⟨x1, x2, x3⟩, x4, x5, x6⟩, tl, 0) by rw [HR.out, if_pos (by unfold fitsH; rw [HM.out]; simp only [Bool.true_and, decide_eq_true_eq]; rw [← HLG.out]; have := HE.out; have := LD.out; have := HS.out; omega)])
              refine wp_region_any (by kernel_rfl) (wpAny_of_held (S := KpS [] W6.heap.size W6.drew) _ _ _ _ ?_)
              change wpAnyH _ _ _ _ _ _ _ _ W6.drew
              have s0 : KpS [] W6.heap.size W6.drew W6.drew := KpS.refl _ _ _
              refine held_take (i := 0) (v := .pointer (some ⟨q, 0, none⟩)) rfl (by kernel_rfl) (by kernel_rfl) (by kernel_rfl) (fun _ _ _ h => h) rfl (fun W1 hW1 => by go_simp) (KpS.refl _ _ _) ?_
              simp only [Act.put, List.setIfInBounds_toArray, List.set_cons_zero, List.set_cons_succ]
              refine held_take (i := 1) (v := .agg #[.int .i64 x1, .int .i64 x2, .int .i64 x3]) rfl (by kernel_rfl) (by kernel_rfl) (by kernel_rfl) (fun _ _ _ h => h) rfl (fun W1 hW1 => exec_load _ _ _ _ rfl rfl (loadSpe W1 q 0 ⟨x1, x2, x3⟩ (rS.out W1 hW1))) (KpS.refl _ _ _) ?_
              simp only [Act.put, List.setIfInBounds_toArray, List.set_cons_zero, List.set_cons_succ]
              refine held_do (i := 2) (by kernel_rfl) rfl rfl (wp_enter (f := 65) (args := #[.agg #[.int .i64 x1, .int .i64 x2, .int .i64 x3]]) (by go_simp) (rMayStripe_any W6.drew x1 x2 x3 true HA.out) ?_)
              rintro e w8 ⟨rfl, k8⟩
              have kp8 : KpS [] W6.heap.size W6.drew w8 := KpS.keeps s0 k8 (Nat.le_refl _) (by simp)
              refine ⟨_, rfl, kp8, ?_⟩
              simp only [Act.put, List.setIfInBounds_toArray, List.set_cons_zero, List.set_cons_succ]
              refine held_take (i := 3) (v := .bool false) rfl (by kernel_rfl) (by kernel_rfl) (by kernel_rfl) (fun _ _ _ h => h) rfl (fun W1 hW1 => by go_simp) (kp8) ?_
              simp only [Act.put, List.setIfInBounds_toArray, List.set_cons_zero, List.set_cons_succ]
              refine held_take (i := 4) (v := .bool false) rfl (by kernel_rfl) (by kernel_rfl) (by kernel_rfl) (fun _ _ _ h => h) rfl (fun W1 hW1 => by go_simp) (kp8) ?_
              simp only [Act.put, List.setIfInBounds_toArray, List.set_cons_zero, List.set_cons_succ]
              refine held_takeW (i := 5) (v := .pointer (some ⟨q, 4, none⟩)) rfl (by kernel_rfl) (by kernel_rfl) (by kernel_rfl) (fun _ _ _ h => h) rfl (fun W1 hW1 => by go_simp) (kp8) ?_
              simp only [Act.put, List.setIfInBounds_toArray, List.set_cons_zero, List.set_cons_succ]
              refine held_takeW (i := 6) (v := .int .i64 x5) rfl (by kernel_rfl) (by kernel_rfl) (by kernel_rfl) (fun _ _ _ h => h) rfl (fun W1 hW1 => exec_load _ _ _ _ rfl rfl (run_loadCell W1 _ _ _ ((cQ.out 4 _ rfl W1 hW1)) (agg_no _ (by kernel_rfl)))) (kp8) ?_
              simp only [Act.put, List.setIfInBounds_toArray, List.set_cons_zero, List.set_cons_succ]
              refine held_doW (i := 7) (by kernel_rfl) rfl rfl (wp_enter (f := 64) (args := #[.int .i64 x5]) (by go_simp) (rmayn_as _ x5 true HB.out) ?_)
              rintro e _ ⟨rfl, rfl⟩
              refine ⟨_, rfl, kp8, ?_⟩
              simp only [Act.put, List.setIfInBounds_toArray, List.set_cons_zero, List.set_cons_succ]
              refine held_takeW (i := 8) (v := .bool false) rfl (by kernel_rfl) (by kernel_rfl) (by kernel_rfl) (fun _ _ _ h => h) rfl (fun W1 hW1 => by go_simp) (kp8) ?_
              simp only [Act.put, List.setIfInBounds_toArray, List.set_cons_zero, List.set_cons_succ]
              refine held_take (i := 9) (v := .bool false) rfl (by kernel_rfl) (by kernel_rfl) (by kernel_rfl) (fun _ _ _ h => h) rfl (fun W1 hW1 => by go_simp) (kp8) ?_
              simp only [Act.put, List.setIfInBounds_toArray, List.set_cons_zero, List.set_cons_succ]
              refine held_take (i := 10) (v := .bool false) rfl (by kernel_rfl) (by kernel_rfl) (by kernel_rfl) (fun _ _ _ h => h) rfl (fun W1 hW1 => by go_simp) (kp8) ?_
              simp only [Act.put, List.setIfInBounds_toArray, List.set_cons_zero, List.set_cons_succ]
              refine held_takeW (i := 11) (v := .pointer (some ⟨q, 3, none⟩)) rfl (by kernel_rfl) (by kernel_rfl) (by kernel_rfl) (fun _ _ _ h => h) rfl (fun W1 hW1 => by go_simp) (kp8) ?_
              simp only [Act.put, List.setIfInBounds_toArray, List.set_cons_zero, List.set_cons_succ]
              refine held_takeW (i := 12) (v := .int .i64 x4) rfl (by kernel_rfl) (by kernel_rfl) (by kernel_rfl) (fun _ _ _ h => h) rfl (fun W1 hW1 => exec_load _ _ _ _ rfl rfl (run_loadCell W1 _ _ _ ((cQ.out 3 _ rfl W1 hW1)) (agg_no _ (by kernel_rfl)))) (kp8) ?_
              simp only [Act.put, List.setIfInBounds_toArray, List.set_cons_zero, List.set_cons_succ]
              refine held_takeW (i := 13) (v := .pointer (some ⟨q, 4, none⟩)) rfl (by kernel_rfl) (by kernel_rfl) (by kernel_rfl) (fun _ _ _ h => h) rfl (fun W1 hW1 => by go_simp) (kp8) ?_
              simp only [Act.put, List.setIfInBounds_toArray, List.set_cons_zero, List.set_cons_succ]
              refine held_takeW (i := 14) (v := .int .i64 x5) rfl (by kernel_rfl) (by kernel_rfl) (by kernel_rfl) (fun _ _ _ h => h) rfl (fun W1 hW1 => exec_load _ _ _ _ rfl rfl (run_loadCell W1 _ _ _ ((cQ.out 4 _ rfl W1 hW1)) (agg_no _ (by kernel_rfl)))) (kp8) ?_
              simp only [Act.put, List.setIfInBounds_toArray, List.set_cons_zero, List.set_cons_succ]
              refine held_takeW (i := 15) (v := .bool false) rfl (by kernel_rfl) (by kernel_rfl) (by kernel_rfl) (fun _ _ _ h => h) rfl (fun W1 hW1 => by go_simp) (kp8) ?_
              simp only [Act.put, List.setIfInBounds_toArray, List.set_cons_zero, List.set_cons_succ]
              refine held_take (i := 16) (v := .bool false) rfl (by kernel_rfl) (by kernel_rfl) (by kernel_rfl) (fun _ _ _ h => h) rfl (fun W1 hW1 => by go_simp) (kp8) ?_
              simp only [Act.put, List.setIfInBounds_toArray, List.set_cons_zero, List.set_cons_succ]
              refine held_take (i := 17) (v := .bool false) rfl (by kernel_rfl) (by kernel_rfl) (by kernel_rfl) (fun _ _ _ h => h) rfl (fun W1 hW1 => by go_simp) (kp8) ?_
              simp only [Act.put, List.setIfInBounds_toArray, List.set_cons_zero, List.set_cons_succ]
              refine held_takeW (i := 18) (v := .pointer (some ⟨q, 5, none⟩)) rfl (by kernel_rfl) (by kernel_rfl) (by kernel_rfl) (fun _ _ _ h => h) rfl (fun W1 hW1 => by go_simp) (kp8) ?_
              simp only [Act.put, List.setIfInBounds_toArray, List.set_cons_zero, List.set_cons_succ]
              refine held_takeW (i := 19) (v := .int .i64 x6) rfl (by kernel_rfl) (by kernel_rfl) (by kernel_rfl) (fun _ _ _ h => h) rfl (fun W1 hW1 => exec_load _ _ _ _ rfl rfl (run_loadCell W1 _ _ _ ((cQ.out 5 _ rfl W1 hW1)) (agg_no _ (by kernel_rfl)))) (kp8) ?_
              simp only [Act.put, List.setIfInBounds_toArray, List.set_cons_zero, List.set_cons_succ]
              refine held_takeW (i := 20) (v := .pointer (some ⟨q, 4, none⟩)) rfl (by kernel_rfl) (by kernel_rfl) (by kernel_rfl) (fun _ _ _ h => h) rfl (fun W1 hW1 => by go_simp) (kp8) ?_
              simp only [Act.put, List.setIfInBounds_toArray, List.set_cons_zero, List.set_cons_succ]
              refine held_takeW (i := 21) (v := .int .i64 x5) rfl (by kernel_rfl) (by kernel_rfl) (by kernel_rfl) (fun _ _ _ h => h) rfl (fun W1 hW1 => exec_load _ _ _ _ rfl rfl (run_loadCell W1 _ _ _ ((cQ.out 4 _ rfl W1 hW1)) (agg_no _ (by kernel_rfl)))) (kp8) ?_
              simp only [Act.put, List.setIfInBounds_toArray, List.set_cons_zero, List.set_cons_succ]
              refine held_takeW (i := 22) (v := .int .i64 (x5 - 1)) rfl (by kernel_rfl) (by kernel_rfl) (by kernel_rfl) (fun _ _ _ h => h) rfl (fun W1 hW1 => by go_simp) (kp8) ?_
              simp only [Act.put, List.setIfInBounds_toArray, List.set_cons_zero, List.set_cons_succ]
              refine held_takeW (i := 23) (v := .int .i64 (400 * (x5 - 1))) rfl (by kernel_rfl) (by kernel_rfl) (by kernel_rfl) (fun _ _ _ h => h) rfl (fun W1 hW1 => by go_simp) (kp8) ?_
              simp only [Act.put, List.setIfInBounds_toArray, List.set_cons_zero, List.set_cons_succ]
              refine held_takeW (i := 24) (v := .bool false) rfl (by kernel_rfl) (by kernel_rfl) (by kernel_rfl) (fun _ _ _ h => h) rfl (fun W1 hW1 => by go_simp) (kp8) ?_
              simp only [Act.put, List.setIfInBounds_toArray, List.set_cons_zero, List.set_cons_succ]
              refine held_take (i := 25) (v := .bool false) rfl (by kernel_rfl) (by kernel_rfl) (by kernel_rfl) (fun _ _ _ h => h) rfl (fun W1 hW1 => by go_simp) (kp8) ?_
              simp only [Act.put, List.setIfInBounds_toArray, List.set_cons_zero, List.set_cons_succ]
              refine held_take (i := 26) (v := .bool false) rfl (by kernel_rfl) (by kernel_rfl) (by kernel_rfl) (fun _ _ _ h => h) rfl (fun W1 hW1 => by go_simp) (kp8) ?_
              simp only [Act.put, List.setIfInBounds_toArray, List.set_cons_zero, List.set_cons_succ]
              refine held_takeW (i := 27) (v := .pointer (some ⟨p, 0, none⟩)) rfl (by kernel_rfl) (by kernel_rfl) (by kernel_rfl) (fun _ _ _ h => h) rfl (fun W1 hW1 => by go_simp) (kp8) ?_
              simp only [Act.put, List.setIfInBounds_toArray, List.set_cons_zero, List.set_cons_succ]
              refine held_takeW (i := 28) (v := .pointer (some ⟨p, 0, none⟩)) rfl (by kernel_rfl) (by kernel_rfl) (by kernel_rfl) (fun _ _ _ h => h) rfl (fun W1 hW1 => by go_simp) (kp8) ?_
              simp only [Act.put, List.setIfInBounds_toArray, List.set_cons_zero, List.set_cons_succ]
              refine held_takeW (i := 29) (v := .pointer (some ⟨p, 0, none⟩)) rfl (by kernel_rfl) (by kernel_rfl) (by kernel_rfl) (fun _ _ _ h => h) rfl (fun W1 hW1 => by go_simp) (kp8) ?_
              simp only [Act.put, List.setIfInBounds_toArray, List.set_cons_zero, List.set_cons_succ]
              refine held_takeW (i := 30) (v := .slice ra tl.length rc) rfl (by kernel_rfl) (by kernel_rfl) (by kernel_rfl) (fun _ _ _ h => h) rfl (fun W1 hW1 => exec_load _ _ _ _ rfl rfl (run_loadCell W1 _ _ _ ((cE.out W1 hW1)) (agg_no _ (by kernel_rfl)))) (kp8) ?_
              simp only [Act.put, List.setIfInBounds_toArray, List.set_cons_zero, List.set_cons_succ]
              refine held_takeW (i := 31) (v := .int .i64 (tl.length : Int)) rfl (by kernel_rfl) (by kernel_rfl) (by kernel_rfl) (fun _ _ _ h => h) rfl (fun W1 hW1 => by go_simp) (kp8) ?_
              simp only [Act.put, List.setIfInBounds_toArray, List.set_cons_zero, List.set_cons_succ]
              refine held_takeW (i := 32) (v := hdV13 ⟨⟨x1, x2, x3⟩, x4, x5, x6⟩) rfl (by kernel_rfl) (by kernel_rfl) (by kernel_rfl) (fun _ _ _ h => h) rfl (fun W1 hW1 => exec_load _ _ _ _ rfl rfl (loadRHd W1 q 0 ⟨⟨x1, x2, x3⟩, x4, x5, x6⟩ (rQ.out W1 hW1))) (kp8) ?_
              simp only [Act.put, List.setIfInBounds_toArray, List.set_cons_zero, List.set_cons_succ]
              refine held_doW (i := 33) (by kernel_rfl) rfl rfl (wp_enter (f := 69) (args := #[hdV13 ⟨⟨x1, x2, x3⟩, x4, x5, x6⟩]) (by go_simp) (rlong_any _ ⟨⟨x1, x2, x3⟩, x4, x5, x6⟩ HSM.out HIN.out) ?_)
              rintro e w9 ⟨rfl, k9⟩
              have kp9 : KpS [] W6.heap.size W6.drew w9 := KpS.keeps kp8 k9 (by have := k8.size; exact this) (by simp)
              refine ⟨_, rfl, kp9, ?_⟩
              simp only [Act.put, List.setIfInBounds_toArray, List.set_cons_zero, List.set_cons_succ]
              rw [← HLG.out]
              refine held_takeW (i := 34) (v := .bool false) rfl (by kernel_rfl) (by kernel_rfl) (by kernel_rfl) (fun _ _ _ h => h) rfl (fun W1 hW1 => by go_simp) (kp9) ?_
              simp only [Act.put, List.setIfInBounds_toArray, List.set_cons_zero, List.set_cons_succ]
              refine held_take (i := 35) (v := .bool false) rfl (by kernel_rfl) (by kernel_rfl) (by kernel_rfl) (fun _ _ _ h => h) rfl (fun W1 hW1 => by go_simp) (kp9) ?_
              simp only [Act.put, List.setIfInBounds_toArray, List.set_cons_zero, List.set_cons_succ]
              refine wpAnyH_done (by kernel_rfl) ?_ _
              have K8 := hid (K6.out.drew.trans (k8.trans k9))
              have D8 := hid (((k8.trans k9).block w.heap.size (show w.heap.size < W6.heap.size by have := PL.out; have := HP.out; omega) (by simp)).trans D6.out)
              have J8 := hid (((k8.trans k9).block q L6.out (by simp)).trans J6.out)
              have P8 := hid ((k8.trans k9).cell (a := ⟨p, 0, none⟩) (v := .slice ra tl.length rc) (by rw [World.cell?_drew]; exact CP0.out) (by simp))
              have R8 := hid ((RP.out.keep ((Keeps.refl [] W6).drew) (by intro _ _ _ _ _; simp)).keep (k8.trans k9) (by intro _ _ _ _ _; simp))
              have S8 := hid (show W6.heap.size ≤ w9.heap.size from (k8.trans k9).size)
              clear s0 kp8 kp9 k8 k9
              go_wp2_with fail
              have LQ := hid (show q < w9.heap.size from Nat.lt_of_lt_of_le L6.out S8.out)
              have LP := hid (show p < w9.heap.size from Nat.lt_of_lt_of_le PL.out S8.out)
              have rQ9 := hid (show ∀ W1, KpS [w.heap.size] w9.heap.size w9.drew W1 → W1.rangeAt q 0 (⟨⟨x1, x2, x3⟩, x4, x5, x6⟩ : Hd13).cells from fun W1 h i u hu => h.cell (by rw [World.cell?_drew]; exact (range_cells (cs := (⟨⟨x1, x2, x3⟩, x4, x5, x6⟩ : Hd13).cells) J8.out) i u hu) LQ.out (by have := HQ.out; simp; omega))
              have cE9 := hid (show ∀ W1, KpS [w.heap.size] w9.heap.size w9.drew W1 → W1.cell? ⟨p, 0, none⟩ = some (.slice ra tl.length rc) from fun W1 h => h.cell (by rw [World.cell?_drew]; exact P8.out) LP.out (by have := HP.out; simp; omega))
              refine wp_region_any (by kernel_rfl) (wpAny_of_held (S := KpS [w.heap.size] w9.heap.size w9.drew) _ _ _ _ ?_)
              change wpAnyH _ _ _ _ _ _ _ _ w9.drew
              have s9 : KpS [w.heap.size] w9.heap.size w9.drew w9.drew := KpS.refl _ _ _
              refine held_take (i := 0) (v := hdV13 ⟨⟨x1, x2, x3⟩, x4, x5, x6⟩) rfl (by kernel_rfl) (by kernel_rfl) (by kernel_rfl) (fun _ _ _ h => h) rfl (fun W1 hW1 => exec_load _ _ _ _ rfl rfl (loadRHd W1 q 0 ⟨⟨x1, x2, x3⟩, x4, x5, x6⟩ (rQ9.out W1 hW1))) (KpS.refl _ _ _) ?_
              simp only [Act.put, List.setIfInBounds_toArray, List.set_cons_zero, List.set_cons_succ]
              refine held_take (i := 1) (v := .pointer (some ⟨p, 0, none⟩)) rfl (by kernel_rfl) (by kernel_rfl) (by kernel_rfl) (fun _ _ _ h => h) rfl (fun W1 hW1 => by go_simp) (KpS.refl _ _ _) ?_
              simp only [Act.put, List.setIfInBounds_toArray, List.set_cons_zero, List.set_cons_succ]
              refine held_take (i := 2) (v := .pointer (some ⟨p, 0, none⟩)) rfl (by kernel_rfl) (by kernel_rfl) (by kernel_rfl) (fun _ _ _ h => h) rfl (fun W1 hW1 => by go_simp) (KpS.refl _ _ _) ?_
              simp only [Act.put, List.setIfInBounds_toArray, List.set_cons_zero, List.set_cons_succ]
              refine held_take (i := 3) (v := .pointer (some ⟨p, 0, none⟩)) rfl (by kernel_rfl) (by kernel_rfl) (by kernel_rfl) (fun _ _ _ h => h) rfl (fun W1 hW1 => by go_simp) (KpS.refl _ _ _) ?_
              simp only [Act.put, List.setIfInBounds_toArray, List.set_cons_zero, List.set_cons_succ]
              refine held_take (i := 4) (v := .slice ra tl.length rc) rfl (by kernel_rfl) (by kernel_rfl) (by kernel_rfl) (fun _ _ _ h => h) rfl (fun W1 hW1 => exec_load _ _ _ _ rfl rfl (run_loadCell W1 _ _ _ (cE9.out W1 hW1) (agg_no _ (by kernel_rfl)))) (KpS.refl _ _ _) ?_
              simp only [Act.put, List.setIfInBounds_toArray, List.set_cons_zero, List.set_cons_succ]
              refine held_do (i := 5) (by kernel_rfl) rfl rfl (wp_enter (f := 47) (args := #[.slice ra tl.length rc]) (by go_simp) (copy_any w9.drew _ tl (R8.out.keep ((Keeps.refl [] w9).drew) (by intro _ _ _ _ _; simp)) (by have := LD.out; have := HL.out; omega)) ?_)
              rintro e wa ⟨ya, yc, rfl, o1, ka⟩
              have sa : KpS [w.heap.size] w9.heap.size w9.drew wa := KpS.keeps s9 ka (Nat.le_refl _) (by simp)
              refine ⟨_, rfl, sa, ?_⟩
              simp only [Act.put, List.setIfInBounds_toArray, List.set_cons_zero, List.set_cons_succ]
              have Da := (ka.block w.heap.size (show w.heap.size < w9.heap.size by have := LP.out; have := HP.out; omega) (by simp)).trans D8.out
              obtain ⟨q1, q2⟩ := setRow_keeps13 (cs := (⟨⟨x1, x2, x3⟩, x4, x5, x6⟩ : Hd13).cells.toArray) Da
              have sb : KpS [w.heap.size] w9.heap.size w9.drew (wa.setRow w.heap.size (⟨⟨x1, x2, x3⟩, x4, x5, x6⟩ : Hd13).cells.toArray) := KpS.keeps sa q2 ka.size (fun i hi _ => hi)
              refine held_do (i := 6) (by kernel_rfl) rfl rfl (wp_stored (exec_storeRHd _ _ rfl w.heap.size _ Da rfl rfl ⟨⟨x1, x2, x3⟩, x4, x5, x6⟩ rfl) ⟨sb, ?_⟩)
              simp only [Act.put, List.setIfInBounds_toArray, List.set_cons_zero, List.set_cons_succ]
              refine held_take (i := 7) (v := .slice ya tl.length yc) rfl (by kernel_rfl) (by kernel_rfl) (by kernel_rfl) (fun _ _ _ h => h) rfl (fun W1 hW1 => exec_asg _ rfl rfl) (sb) ?_
              simp only [Act.put, List.setIfInBounds_toArray, List.set_cons_zero, List.set_cons_succ]
              refine held_take (i := 8) (v := .int .i64 0) rfl (by kernel_rfl) (by kernel_rfl) (by kernel_rfl) (fun _ _ _ h => h) rfl (fun W1 hW1 => exec_asg _ rfl rfl) (sb) ?_
              simp only [Act.put, List.setIfInBounds_toArray, List.set_cons_zero, List.set_cons_succ]
              refine wpAnyH_done (by kernel_rfl) ?_ _
              have Q1 := hid (range_cells q1)
              have Q2 := hid ((K8.out.drew.trans ka).trans' q2 (fun i hi hm => by simp at hm; omega))
              have NB := hid (show ∀ ad, ya = some ad → w9.heap.size ≤ ad.block from fun ad had => by
                subst had
                exact (own_lo o1 ad rfl))
              have RA := hid ((row_of_own o1 (fun z hz => R8.out.bytes z hz)).keep q2 (by
                intro ad n c' e hne hm
                injection e with e _ _
                have := NB.out ad e
                have := LP.out
                have := HP.out
                simp at hm
                omega))
              clear q1 q2 s9 sa sb ka o1 Da
              generalize wa.setRow w.heap.size _ = wb at Q1 Q2 RA ⊢
              have HV := rhd_ret Q1.out
              go_wp2_with fail
              refine bodyPost_ret (v := .tuple #[hdV13 ⟨⟨x1, x2, x3⟩, x4, x5, x6⟩, .slice ya tl.length yc, .int .i64 0]) (rrd_ret rfl rfl HV rfl rfl) rfl ?_
              refine ⟨Q2.out, ya, yc, ?_, ?_, ?_⟩
              · rw [HF.out]
              · rw [HF.out]; exact RA.out
              · intro ad had
                have := NB.out ad had
                have := LP.out
                have := HP.out
                omega
            · have heb : ((tl.length : Int) != lg) = true := by simpa using he
              have HE := hid he
              clear he
              have HF4 := hid (show r = (hZ13, [], 4) by rw [HR.out, if_neg (by unfold fitsH; rw [HM.out]; simp only [Bool.true_and, decide_eq_true_eq]; rw [← HLG.out]; have := HE.out; have := LD.out; have := HS.out; omega)])
              refine wp_region_any (by kernel_rfl) (wpAny_of_held (S := KpS [] W6.heap.size W6.drew) _ _ _ _ ?_)
              change wpAnyH _ _ _ _ _ _ _ _ W6.drew
              have s0 : KpS [] W6.heap.size W6.drew W6.drew := KpS.refl _ _ _
              refine held_take (i := 0) (v := .pointer (some ⟨q, 0, none⟩)) rfl (by kernel_rfl) (by kernel_rfl) (by kernel_rfl) (fun _ _ _ h => h) rfl (fun W1 hW1 => by go_simp) (KpS.refl _ _ _) ?_
              simp only [Act.put, List.setIfInBounds_toArray, List.set_cons_zero, List.set_cons_succ]
              refine held_take (i := 1) (v := .agg #[.int .i64 x1, .int .i64 x2, .int .i64 x3]) rfl (by kernel_rfl) (by kernel_rfl) (by kernel_rfl) (fun _ _ _ h => h) rfl (fun W1 hW1 => exec_load _ _ _ _ rfl rfl (loadSpe W1 q 0 ⟨x1, x2, x3⟩ (rS.out W1 hW1))) (KpS.refl _ _ _) ?_
              simp only [Act.put, List.setIfInBounds_toArray, List.set_cons_zero, List.set_cons_succ]
              refine held_do (i := 2) (by kernel_rfl) rfl rfl (wp_enter (f := 65) (args := #[.agg #[.int .i64 x1, .int .i64 x2, .int .i64 x3]]) (by go_simp) (rMayStripe_any W6.drew x1 x2 x3 true HA.out) ?_)
              rintro e w8 ⟨rfl, k8⟩
              have kp8 : KpS [] W6.heap.size W6.drew w8 := KpS.keeps s0 k8 (Nat.le_refl _) (by simp)
              refine ⟨_, rfl, kp8, ?_⟩
              simp only [Act.put, List.setIfInBounds_toArray, List.set_cons_zero, List.set_cons_succ]
              refine held_take (i := 3) (v := .bool false) rfl (by kernel_rfl) (by kernel_rfl) (by kernel_rfl) (fun _ _ _ h => h) rfl (fun W1 hW1 => by go_simp) (kp8) ?_
              simp only [Act.put, List.setIfInBounds_toArray, List.set_cons_zero, List.set_cons_succ]
              refine held_take (i := 4) (v := .bool false) rfl (by kernel_rfl) (by kernel_rfl) (by kernel_rfl) (fun _ _ _ h => h) rfl (fun W1 hW1 => by go_simp) (kp8) ?_
              simp only [Act.put, List.setIfInBounds_toArray, List.set_cons_zero, List.set_cons_succ]
              refine held_takeW (i := 5) (v := .pointer (some ⟨q, 4, none⟩)) rfl (by kernel_rfl) (by kernel_rfl) (by kernel_rfl) (fun _ _ _ h => h) rfl (fun W1 hW1 => by go_simp) (kp8) ?_
              simp only [Act.put, List.setIfInBounds_toArray, List.set_cons_zero, List.set_cons_succ]
              refine held_takeW (i := 6) (v := .int .i64 x5) rfl (by kernel_rfl) (by kernel_rfl) (by kernel_rfl) (fun _ _ _ h => h) rfl (fun W1 hW1 => exec_load _ _ _ _ rfl rfl (run_loadCell W1 _ _ _ ((cQ.out 4 _ rfl W1 hW1)) (agg_no _ (by kernel_rfl)))) (kp8) ?_
              simp only [Act.put, List.setIfInBounds_toArray, List.set_cons_zero, List.set_cons_succ]
              refine held_doW (i := 7) (by kernel_rfl) rfl rfl (wp_enter (f := 64) (args := #[.int .i64 x5]) (by go_simp) (rmayn_as _ x5 true HB.out) ?_)
              rintro e _ ⟨rfl, rfl⟩
              refine ⟨_, rfl, kp8, ?_⟩
              simp only [Act.put, List.setIfInBounds_toArray, List.set_cons_zero, List.set_cons_succ]
              refine held_takeW (i := 8) (v := .bool false) rfl (by kernel_rfl) (by kernel_rfl) (by kernel_rfl) (fun _ _ _ h => h) rfl (fun W1 hW1 => by go_simp) (kp8) ?_
              simp only [Act.put, List.setIfInBounds_toArray, List.set_cons_zero, List.set_cons_succ]
              refine held_take (i := 9) (v := .bool false) rfl (by kernel_rfl) (by kernel_rfl) (by kernel_rfl) (fun _ _ _ h => h) rfl (fun W1 hW1 => by go_simp) (kp8) ?_
              simp only [Act.put, List.setIfInBounds_toArray, List.set_cons_zero, List.set_cons_succ]
              refine held_take (i := 10) (v := .bool false) rfl (by kernel_rfl) (by kernel_rfl) (by kernel_rfl) (fun _ _ _ h => h) rfl (fun W1 hW1 => by go_simp) (kp8) ?_
              simp only [Act.put, List.setIfInBounds_toArray, List.set_cons_zero, List.set_cons_succ]
              refine held_takeW (i := 11) (v := .pointer (some ⟨q, 3, none⟩)) rfl (by kernel_rfl) (by kernel_rfl) (by kernel_rfl) (fun _ _ _ h => h) rfl (fun W1 hW1 => by go_simp) (kp8) ?_
              simp only [Act.put, List.setIfInBounds_toArray, List.set_cons_zero, List.set_cons_succ]
              refine held_takeW (i := 12) (v := .int .i64 x4) rfl (by kernel_rfl) (by kernel_rfl) (by kernel_rfl) (fun _ _ _ h => h) rfl (fun W1 hW1 => exec_load _ _ _ _ rfl rfl (run_loadCell W1 _ _ _ ((cQ.out 3 _ rfl W1 hW1)) (agg_no _ (by kernel_rfl)))) (kp8) ?_
              simp only [Act.put, List.setIfInBounds_toArray, List.set_cons_zero, List.set_cons_succ]
              refine held_takeW (i := 13) (v := .pointer (some ⟨q, 4, none⟩)) rfl (by kernel_rfl) (by kernel_rfl) (by kernel_rfl) (fun _ _ _ h => h) rfl (fun W1 hW1 => by go_simp) (kp8) ?_
              simp only [Act.put, List.setIfInBounds_toArray, List.set_cons_zero, List.set_cons_succ]
              refine held_takeW (i := 14) (v := .int .i64 x5) rfl (by kernel_rfl) (by kernel_rfl) (by kernel_rfl) (fun _ _ _ h => h) rfl (fun W1 hW1 => exec_load _ _ _ _ rfl rfl (run_loadCell W1 _ _ _ ((cQ.out 4 _ rfl W1 hW1)) (agg_no _ (by kernel_rfl)))) (kp8) ?_
              simp only [Act.put, List.setIfInBounds_toArray, List.set_cons_zero, List.set_cons_succ]
              refine held_takeW (i := 15) (v := .bool false) rfl (by kernel_rfl) (by kernel_rfl) (by kernel_rfl) (fun _ _ _ h => h) rfl (fun W1 hW1 => by go_simp) (kp8) ?_
              simp only [Act.put, List.setIfInBounds_toArray, List.set_cons_zero, List.set_cons_succ]
              refine held_take (i := 16) (v := .bool false) rfl (by kernel_rfl) (by kernel_rfl) (by kernel_rfl) (fun _ _ _ h => h) rfl (fun W1 hW1 => by go_simp) (kp8) ?_
              simp only [Act.put, List.setIfInBounds_toArray, List.set_cons_zero, List.set_cons_succ]
              refine held_take (i := 17) (v := .bool false) rfl (by kernel_rfl) (by kernel_rfl) (by kernel_rfl) (fun _ _ _ h => h) rfl (fun W1 hW1 => by go_simp) (kp8) ?_
              simp only [Act.put, List.setIfInBounds_toArray, List.set_cons_zero, List.set_cons_succ]
              refine held_takeW (i := 18) (v := .pointer (some ⟨q, 5, none⟩)) rfl (by kernel_rfl) (by kernel_rfl) (by kernel_rfl) (fun _ _ _ h => h) rfl (fun W1 hW1 => by go_simp) (kp8) ?_
              simp only [Act.put, List.setIfInBounds_toArray, List.set_cons_zero, List.set_cons_succ]
              refine held_takeW (i := 19) (v := .int .i64 x6) rfl (by kernel_rfl) (by kernel_rfl) (by kernel_rfl) (fun _ _ _ h => h) rfl (fun W1 hW1 => exec_load _ _ _ _ rfl rfl (run_loadCell W1 _ _ _ ((cQ.out 5 _ rfl W1 hW1)) (agg_no _ (by kernel_rfl)))) (kp8) ?_
              simp only [Act.put, List.setIfInBounds_toArray, List.set_cons_zero, List.set_cons_succ]
              refine held_takeW (i := 20) (v := .pointer (some ⟨q, 4, none⟩)) rfl (by kernel_rfl) (by kernel_rfl) (by kernel_rfl) (fun _ _ _ h => h) rfl (fun W1 hW1 => by go_simp) (kp8) ?_
              simp only [Act.put, List.setIfInBounds_toArray, List.set_cons_zero, List.set_cons_succ]
              refine held_takeW (i := 21) (v := .int .i64 x5) rfl (by kernel_rfl) (by kernel_rfl) (by kernel_rfl) (fun _ _ _ h => h) rfl (fun W1 hW1 => exec_load _ _ _ _ rfl rfl (run_loadCell W1 _ _ _ ((cQ.out 4 _ rfl W1 hW1)) (agg_no _ (by kernel_rfl)))) (kp8) ?_
              simp only [Act.put, List.setIfInBounds_toArray, List.set_cons_zero, List.set_cons_succ]
              refine held_takeW (i := 22) (v := .int .i64 (x5 - 1)) rfl (by kernel_rfl) (by kernel_rfl) (by kernel_rfl) (fun _ _ _ h => h) rfl (fun W1 hW1 => by go_simp) (kp8) ?_
              simp only [Act.put, List.setIfInBounds_toArray, List.set_cons_zero, List.set_cons_succ]
              refine held_takeW (i := 23) (v := .int .i64 (400 * (x5 - 1))) rfl (by kernel_rfl) (by kernel_rfl) (by kernel_rfl) (fun _ _ _ h => h) rfl (fun W1 hW1 => by go_simp) (kp8) ?_
              simp only [Act.put, List.setIfInBounds_toArray, List.set_cons_zero, List.set_cons_succ]
              refine held_takeW (i := 24) (v := .bool false) rfl (by kernel_rfl) (by kernel_rfl) (by kernel_rfl) (fun _ _ _ h => h) rfl (fun W1 hW1 => by go_simp) (kp8) ?_
              simp only [Act.put, List.setIfInBounds_toArray, List.set_cons_zero, List.set_cons_succ]
              refine held_take (i := 25) (v := .bool false) rfl (by kernel_rfl) (by kernel_rfl) (by kernel_rfl) (fun _ _ _ h => h) rfl (fun W1 hW1 => by go_simp) (kp8) ?_
              simp only [Act.put, List.setIfInBounds_toArray, List.set_cons_zero, List.set_cons_succ]
              refine held_take (i := 26) (v := .bool false) rfl (by kernel_rfl) (by kernel_rfl) (by kernel_rfl) (fun _ _ _ h => h) rfl (fun W1 hW1 => by go_simp) (kp8) ?_
              simp only [Act.put, List.setIfInBounds_toArray, List.set_cons_zero, List.set_cons_succ]
              refine held_takeW (i := 27) (v := .pointer (some ⟨p, 0, none⟩)) rfl (by kernel_rfl) (by kernel_rfl) (by kernel_rfl) (fun _ _ _ h => h) rfl (fun W1 hW1 => by go_simp) (kp8) ?_
              simp only [Act.put, List.setIfInBounds_toArray, List.set_cons_zero, List.set_cons_succ]
              refine held_takeW (i := 28) (v := .pointer (some ⟨p, 0, none⟩)) rfl (by kernel_rfl) (by kernel_rfl) (by kernel_rfl) (fun _ _ _ h => h) rfl (fun W1 hW1 => by go_simp) (kp8) ?_
              simp only [Act.put, List.setIfInBounds_toArray, List.set_cons_zero, List.set_cons_succ]
              refine held_takeW (i := 29) (v := .pointer (some ⟨p, 0, none⟩)) rfl (by kernel_rfl) (by kernel_rfl) (by kernel_rfl) (fun _ _ _ h => h) rfl (fun W1 hW1 => by go_simp) (kp8) ?_
              simp only [Act.put, List.setIfInBounds_toArray, List.set_cons_zero, List.set_cons_succ]
              refine held_takeW (i := 30) (v := .slice ra tl.length rc) rfl (by kernel_rfl) (by kernel_rfl) (by kernel_rfl) (fun _ _ _ h => h) rfl (fun W1 hW1 => exec_load _ _ _ _ rfl rfl (run_loadCell W1 _ _ _ ((cE.out W1 hW1)) (agg_no _ (by kernel_rfl)))) (kp8) ?_
              simp only [Act.put, List.setIfInBounds_toArray, List.set_cons_zero, List.set_cons_succ]
              refine held_takeW (i := 31) (v := .int .i64 (tl.length : Int)) rfl (by kernel_rfl) (by kernel_rfl) (by kernel_rfl) (fun _ _ _ h => h) rfl (fun W1 hW1 => by go_simp) (kp8) ?_
              simp only [Act.put, List.setIfInBounds_toArray, List.set_cons_zero, List.set_cons_succ]
              refine held_takeW (i := 32) (v := hdV13 ⟨⟨x1, x2, x3⟩, x4, x5, x6⟩) rfl (by kernel_rfl) (by kernel_rfl) (by kernel_rfl) (fun _ _ _ h => h) rfl (fun W1 hW1 => exec_load _ _ _ _ rfl rfl (loadRHd W1 q 0 ⟨⟨x1, x2, x3⟩, x4, x5, x6⟩ (rQ.out W1 hW1))) (kp8) ?_
              simp only [Act.put, List.setIfInBounds_toArray, List.set_cons_zero, List.set_cons_succ]
              refine held_doW (i := 33) (by kernel_rfl) rfl rfl (wp_enter (f := 69) (args := #[hdV13 ⟨⟨x1, x2, x3⟩, x4, x5, x6⟩]) (by go_simp) (rlong_any _ ⟨⟨x1, x2, x3⟩, x4, x5, x6⟩ HSM.out HIN.out) ?_)
              rintro e w9 ⟨rfl, k9⟩
              have kp9 : KpS [] W6.heap.size W6.drew w9 := KpS.keeps kp8 k9 (by have := k8.size; exact this) (by simp)
              refine ⟨_, rfl, kp9, ?_⟩
              simp only [Act.put, List.setIfInBounds_toArray, List.set_cons_zero, List.set_cons_succ]
              rw [← HLG.out]
              refine held_takeW (i := 34) (v := .bool true) rfl (by kernel_rfl) (by kernel_rfl) (by kernel_rfl) (fun _ _ _ h => h) rfl (fun W1 hW1 => by go_simp) (kp9) ?_
              simp only [Act.put, List.setIfInBounds_toArray, List.set_cons_zero, List.set_cons_succ]
              refine held_take (i := 35) (v := .bool true) rfl (by kernel_rfl) (by kernel_rfl) (by kernel_rfl) (fun _ _ _ h => h) rfl (fun W1 hW1 => by go_simp) (kp9) ?_
              simp only [Act.put, List.setIfInBounds_toArray, List.set_cons_zero, List.set_cons_succ]
              refine wpAnyH_done (by kernel_rfl) ?_ _
              have K8 := hid (K6.out.drew.trans (k8.trans k9))
              have D8 := hid (((k8.trans k9).block w.heap.size (show w.heap.size < W6.heap.size by have := PL.out; have := HP.out; omega) (by simp)).trans D6.out)
              clear s0 kp8 kp9 k8 k9
              obtain ⟨q1, q2⟩ := setRow_keeps13 (cs := hZ13.cells.toArray) D8.out
              have Q1 := hid (range_cells q1)
              have Q2 := hid (K8.out.trans' q2 (fun i hi hm => by simp at hm; omega))
              have HV := rhd_ret Q1.out
              clear q1 q2
              go_wp2_with (first | (refine wpList_is rfl _ _ (exec_buildRHd rfl) ?_) | (refine wpList_noval rfl _ (exec_storeRHd _ _ rfl w.heap.size _ D8.out rfl rfl hZ13 rfl) ?_) | fail)
              refine bodyPost_ret (v := .tuple #[hdV13 hZ13, .slice none 0 0, .int .i64 4]) (rrd_ret rfl rfl HV rfl rfl) rfl ?_
              refine ⟨Q2.out, none, 0, ?_, ?_, by simp⟩
              · rw [HF4.out]; rfl
              · rw [HF4.out]; exact RowAt.nil _
end Go.Proofs.Ytoglcohdanpciaa
