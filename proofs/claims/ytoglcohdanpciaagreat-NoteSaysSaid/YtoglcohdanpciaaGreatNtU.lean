/- note: the reference's DecodeReply. -/
import Derived.Test.YtoglcohdanpciaaGreatNtI
import Derived.Test.YtoglcohdanpciaaGreatNtL
import Derived.Test.YtoglcohdanpciaaGreatBkEc
namespace Go.Proofs.YtoglcohdanpciaaGreat
open Go.RowKit Go.Shelf
set_option maxRecDepth 100000
set_option linter.unusedSimpArgs false
set_option linter.unusedVariables false

theorem bld_ent (t : ByteArray) (w : World) : (Instr.build 28 #[(0, .string t)]).run Tryz.prog w = .ok (KEnt.v ⟨t, 0, false⟩) w := by kernel_rfl
theorem exec_ent {ρ : Operand → Value} {o : Oper} {w : World} (x : Operand) (t : ByteArray) (ho : o.op = .build 28 #[(0, x)]) (hx : ρ x = .string t) : (execOp ρ o).run Tryz.prog w = .ok (.value (KEnt.v ⟨t, 0, false⟩)) w := by
  simp only [execOp, ho, List.map_toArray, List.map_cons, List.map_nil, hx, Sem.run_bind, bld_ent, Result.andThen_ok, Sem.run_pure]
theorem numE_pos {st s : PSt} {x : Int} (h : numE 2 st = (x, s)) (hx : x ≠ 0) : s.2 = 0 := by
  by_cases h1 : st.2 ≠ 0
  · rw [numE_stay 2 h1] at h
    injection h with h _
    exact absurd h.symm hx
  · have h1' : st.2 = 0 := by simpa using h1
    unfold numE after rdNum at h
    rw [if_neg h1] at h
    rw [if_neg (show ¬ ¬ ((1 : Int) ≤ 2 ∧ (2 : Int) ≤ 7) by decide)] at h
    by_cases h2 : st.1.length < Int.toNat 2
    · rw [if_pos h2] at h
      injection h with h _
      exact absurd (show x = 0 from h.symm) hx
    · rw [if_neg h2] at h
      injection h with _ h
      rw [← h]
/-- What the reference answers of a reply's bytes. -/
def RDeP (w : World) (y : Int) (r : Rp) (e : Ending) (w' : World) : Prop :=
  Keeps [] w w' ∧ ((y = 0 ∧ ∃ ve am cm, e = .returned (.tuple #[rpV r ve (.slice am r.mp.length cm), .int .i64 0]) ∧ LsAt KEnt w' ve r.es ∧ RowAt w' (.slice am r.mp.length cm) r.mp) ∨ (y ≠ 0 ∧ e = .returned (.tuple #[rpV rpZ (.slice none 0 0) (.slice none 0 0), .int .i64 y])))
set_option maxHeartbeats 51200000 in
theorem rnDecR_any (w : World) (v : Value) (zs : List Int) (h : RowAt w v zs) (hl : zs.length ≤ 35184372088832) :
    Calls Tryz.prog 9 #[v] w (RDeP w (decW rpC zs) (rpC.g (zs, 0)).1) := by
  obtain ⟨aq, cq, rfl⟩ : ∃ a c, v = .slice a zs.length c := by obtain ⟨a, c, e, _⟩ := h; exact ⟨a, c, e⟩
  obtain ⟨st, hst⟩ : ∃ z : PSt, z = (zs, 0) := ⟨_, rfl⟩
  obtain ⟨wa, hwa⟩ : ∃ z, z = w.alloc (.cells (rpZ.cells (.slice none 0 0) (.slice none 0 0)).toArray 25) := ⟨_, rfl⟩
  have k1 : Keeps [] w wa := by rw [hwa]; exact (Keeps.refl [] w).alloc _
  have z1 : wa.heap.size = w.heap.size + 1 := by rw [hwa]; simp
  obtain ⟨wb, hwb⟩ : ∃ z, z = wa.alloc (.cells #[.slice aq zs.length cq, .int .i64 0] 69) := ⟨_, rfl⟩
  have k2 : Keeps [] wa wb := by rw [hwb]; exact (Keeps.refl [] wa).alloc _
  have z2 : wb.heap.size = w.heap.size + 2 := by rw [hwb]; simp; omega
  have EY := reye_newB k1 h hl
  rw [← hwb, ← hst, z1] at EY
  obtain ⟨wd, hwd⟩ : ∃ z, z = wb.alloc (.cells (rpZ.cells (.slice none 0 0) (.slice none 0 0)).toArray 25) := ⟨_, rfl⟩
  have k3 : Keeps [] wb wd := by rw [hwd]; exact (Keeps.refl [] wb).alloc _
  have z3 : wd.heap.size = w.heap.size + 3 := by rw [hwd]; simp; omega
  have FC : wd.heap[w.heap.size + 1 + 1]? = some (.cells (rpZ.cells (.slice none 0 0) (.slice none 0 0)).toArray 25 (0, 0)) := by rw [show w.heap.size + 1 + 1 = wb.heap.size by omega, hwd]; exact heap_alloc_new wb _
  have FS := hid (show (((w.alloc (.cells (rpZ.cells (.slice none 0 0) (.slice none 0 0)).toArray 25)).alloc (.cells #[.slice aq zs.length cq, .int .i64 0] 69)).alloc (.cells (rpZ.cells (.slice none 0 0) (.slice none 0 0)).toArray 25)).heap[w.heap.size + 1 + 1]? = some (.cells (rpZ.cells (.slice none 0 0) (.slice none 0 0)).toArray 25 (0, 0)) by rw [← hwa, ← hwb, ← hwd]; exact FC)
  obtain ⟨wc, hwc⟩ : ∃ z, z = wd.setRow (w.heap.size + 1 + 1) (rpZ.cells (.slice none 0 0) (.slice none 0 0)).toArray := ⟨_, rfl⟩
  obtain ⟨q1, q2⟩ := setRow_keepsN (cs := (rpZ.cells (.slice none 0 0) (.slice none 0 0)).toArray) FC
  rw [← hwc] at q1 q2
  have E0 := hid ((EY.more k3).later q2 (by omega) (by omega))
  have D0 := hid (show wc.heap[w.heap.size]? = some (.cells (rpZ.cells (.slice none 0 0) (.slice none 0 0)).toArray 25 (0, 0)) from (q2.block _ (by omega) (by simp; omega)).trans ((k3.block _ (by omega) (by simp)).trans ((k2.block _ (by omega) (by simp)).trans (by rw [hwa]; exact heap_alloc_new w _))))
  have J0 := hid (show wc.heap[w.heap.size + 1 + 1]? = some (.cells #[.int .i64 0, .int .i64 0, .int .i64 0, .int .i64 0, .int .i64 0, .bool false, .slice none 0 0, .slice none 0 0] 25 (0, 0)) from q1)
  have K0 := hid ((k1.trans (k2.trans k3)).trans' q2 (S := []) (fun b hb hm => by simp at hm; omega))
  have HS0 := hid (show w.heap.size + 1 + 1 < wc.heap.size by have := q2.size; omega)
  obtain ⟨y, hy⟩ : ∃ z, z = decW rpC zs := ⟨_, rfl⟩
  obtain ⟨r, hr⟩ : ∃ z, z = (rpC.g (zs, 0)).1 := ⟨_, rfl⟩
  rw [← hy, ← hr]
  have HY := hid hy
  have HR := hid hr
  have HST := hid hst
  have HWA := hid hwa
  have HWB := hid hwb
  have HWC := hid hwc
  have HWD := hid hwd
  have Z1 := hid z1
  have Z2 := hid z2
  clear h hl k1 k2 k3 EY hy hr hst hwa hwb hwc hwd z1 z2 z3 FC q1 q2
  go_enter Tryz.func9, Tryz.ntmps9
  go_wp2_with (first | (refine wpList_is rfl _ _ (exec_alloc 25 (rpZ.cells (.slice none 0 0) (.slice none 0 0)).toArray irRep rfl) ?_; try simp only [World.size_alloc]) | (refine wpList_noval rfl _ (exec_storeWhole 25 _ _ rfl (w.heap.size + 1 + 1) (rpZ.cells (.slice none 0 0) (.slice none 0 0)).toArray (rpZ.cells (.slice none 0 0) (.slice none 0 0)) FS.out rfl rfl rfl (by kernel_rfl) (one_rp _ _ _ _ _ _ _)) ?_; refine Hid.out ?_) | fail)
  refine hid ?_
  rw [← HWA.out, ← HWB.out, ← HWD.out, ← HWC.out]
  clear FS
  obtain ⟨n0, hn0⟩ : ∃ z, z = w.heap.size := ⟨_, rfl⟩
  obtain ⟨n1, hn1⟩ : ∃ z, z = w.heap.size + 1 := ⟨_, rfl⟩
  obtain ⟨n2, hn2⟩ : ∃ z, z = w.heap.size + 1 + 1 := ⟨_, rfl⟩
  have NN := hid (show n0 = w.heap.size ∧ n1 = n0 + 1 ∧ n2 = n0 + 2 by omega)
  rw [← hn2] at J0 HS0 ⊢
  rw [← hn1] at E0 ⊢
  rw [← hn0] at D0 E0 ⊢
  clear hn0 hn1 hn2 HWA HWB HWC HWD Z1 Z2
  obtain ⟨x1, s1, e1⟩ : ∃ x s, numE 1 st = (x, s) := ⟨_, _, rfl⟩
  have N1 := hid e1
  clear e1
  go_wp2_with fail
  have A := E0.out.num 1
  rw [N1.out] at A
  refine A.mono ?_
  rintro e u0 ⟨rfl, ey, kk⟩
  have JX := hid ((kk.block n2 HS0.out (by have := NN.out; simp; omega)).trans J0.out)
  have DX := hid ((kk.block n0 (by have := HS0.out; have := NN.out; omega) (by have := NN.out; simp; omega)).trans D0.out)
  have KX := hid (K0.out.trans' kk (fun b hb hm => by simp at hm; have := NN.out; omega))
  have HX := hid (Nat.lt_of_lt_of_le HS0.out kk.size)
  clear J0 D0 K0 HS0
  have J1 := JX
  have D1 := DX
  have K1 := KX
  have HS1 := HX
  clear JX DX KX HX
  have E1 := hid ey
  clear A ey kk E0
  obtain ⟨cc, ff⟩ := five_cells J1.out 0
  change u0.cell? ⟨n2, 0, none⟩ = some (.int .i64 0) at cc
  have JX := hid (show (u0.setCell ⟨n2, 0, none⟩ (.int .i64 x1)).heap[n2]? = some (.cells #[.int .i64 x1, .int .i64 0, .int .i64 0, .int .i64 0, .int .i64 0, .bool false, .slice none 0 0, .slice none 0 0] 25 (0, 0)) from set_five (i := 0) J1.out (.int .i64 x1))
  have sk : Keeps [n2] u0 (u0.setCell ⟨n2, 0, none⟩ (.int .i64 x1)) := set_keep
  have DX := hid ((sk.block n0 (by have := HS1.out; have := NN.out; omega) (by have := NN.out; simp; omega)).trans D1.out)
  have EX := hid (E1.out.later sk (by have := NN.out; omega) (by have := NN.out; omega))
  have KX := hid (K1.out.trans' sk (fun b hb hm => by simp at hm; have := NN.out; omega))
  have HX := hid (Nat.lt_of_lt_of_le HS1.out sk.size)
  clear sk J1 D1 K1 HS1 E1
  have J1 := JX
  have D1 := DX
  have K1 := KX
  have HS1 := HX
  have E1 := EX
  clear JX DX KX HX EX
  obtain ⟨cc, ff⟩ := five_cells J1.out 0
  change (u0.setCell ⟨n2, 0, none⟩ (.int .i64 x1)).cell? ⟨n2, 0, none⟩ = some (.int .i64 x1) at cc
  go_wp2_with fail
  clear cc ff
  refine (rForm_any E1.out (decide ((18 : Int) < x1))).mono ?_
  rintro e uf ⟨rfl, ey, kk⟩
  obtain ⟨t1, ht1⟩ : ∃ z, z = formW s1 (decide ((18 : Int) < x1)) := ⟨_, rfl⟩
  rw [← ht1] at ey
  have HT1 := hid ht1
  have JX := hid ((kk.block n2 HS1.out (by have := NN.out; simp; omega)).trans J1.out)
  have DX := hid ((kk.block n0 (by have := HS1.out; have := NN.out; omega) (by have := NN.out; simp; omega)).trans D1.out)
  have KX := hid (K1.out.trans' kk (fun b hb hm => by simp at hm; have := NN.out; omega))
  have HX := hid (Nat.lt_of_lt_of_le HS1.out kk.size)
  clear J1 D1 K1 HS1
  have JF := JX
  have DF := DX
  have KF := KX
  have HSF := HX
  clear JX DX KX HX
  have EF := hid ey
  clear ey kk E1 ht1
  have J1 := JF
  have D1 := DF
  have K1 := KF
  have HS1 := HSF
  have E1 := EF
  clear JF DF KF HSF EF
  obtain ⟨x2, s2, e2⟩ : ∃ x s, numE 2 t1 = (x, s) := ⟨_, _, rfl⟩
  have N2 := hid e2
  clear e2
  go_wp2_with fail
  have A := E1.out.num 2
  rw [N2.out] at A
  refine A.mono ?_
  rintro e u1 ⟨rfl, ey, kk⟩
  have JX := hid ((kk.block n2 HS1.out (by have := NN.out; simp; omega)).trans J1.out)
  have DX := hid ((kk.block n0 (by have := HS1.out; have := NN.out; omega) (by have := NN.out; simp; omega)).trans D1.out)
  have KX := hid (K1.out.trans' kk (fun b hb hm => by simp at hm; have := NN.out; omega))
  have HX := hid (Nat.lt_of_lt_of_le HS1.out kk.size)
  clear J1 D1 K1 HS1
  have J2 := JX
  have D2 := DX
  have K2 := KX
  have HS2 := HX
  clear JX DX KX HX
  have E2 := hid ey
  clear A ey kk E1
  obtain ⟨cc, ff⟩ := five_cells J2.out 1
  change u1.cell? ⟨n2, 1, none⟩ = some (.int .i64 0) at cc
  have JX := hid (show (u1.setCell ⟨n2, 1, none⟩ (.int .i64 x2)).heap[n2]? = some (.cells #[.int .i64 x1, .int .i64 x2, .int .i64 0, .int .i64 0, .int .i64 0, .bool false, .slice none 0 0, .slice none 0 0] 25 (0, 0)) from set_five (i := 1) J2.out (.int .i64 x2))
  have sk : Keeps [n2] u1 (u1.setCell ⟨n2, 1, none⟩ (.int .i64 x2)) := set_keep
  have DX := hid ((sk.block n0 (by have := HS2.out; have := NN.out; omega) (by have := NN.out; simp; omega)).trans D2.out)
  have EX := hid (E2.out.later sk (by have := NN.out; omega) (by have := NN.out; omega))
  have KX := hid (K2.out.trans' sk (fun b hb hm => by simp at hm; have := NN.out; omega))
  have HX := hid (Nat.lt_of_lt_of_le HS2.out sk.size)
  clear sk J2 D2 K2 HS2 E2
  have J2 := JX
  have D2 := DX
  have K2 := KX
  have HS2 := HX
  have E2 := EX
  clear JX DX KX HX EX

  obtain ⟨x3, s3, e3⟩ : ∃ x s, numE 2 s2 = (x, s) := ⟨_, _, rfl⟩
  have N3 := hid e3
  clear e3
  go_wp2_with fail
  have A := E2.out.num 2
  rw [N3.out] at A
  refine A.mono ?_
  rintro e u2 ⟨rfl, ey, kk⟩
  have JX := hid ((kk.block n2 HS2.out (by have := NN.out; simp; omega)).trans J2.out)
  have DX := hid ((kk.block n0 (by have := HS2.out; have := NN.out; omega) (by have := NN.out; simp; omega)).trans D2.out)
  have KX := hid (K2.out.trans' kk (fun b hb hm => by simp at hm; have := NN.out; omega))
  have HX := hid (Nat.lt_of_lt_of_le HS2.out kk.size)
  clear J2 D2 K2 HS2
  have J3 := JX
  have D3 := DX
  have K3 := KX
  have HS3 := HX
  clear JX DX KX HX
  have E3 := hid ey
  clear A ey kk E2
  obtain ⟨cc, ff⟩ := five_cells J3.out 2
  change u2.cell? ⟨n2, 2, none⟩ = some (.int .i64 0) at cc
  have JX := hid (show (u2.setCell ⟨n2, 2, none⟩ (.int .i64 x3)).heap[n2]? = some (.cells #[.int .i64 x1, .int .i64 x2, .int .i64 x3, .int .i64 0, .int .i64 0, .bool false, .slice none 0 0, .slice none 0 0] 25 (0, 0)) from set_five (i := 2) J3.out (.int .i64 x3))
  have sk : Keeps [n2] u2 (u2.setCell ⟨n2, 2, none⟩ (.int .i64 x3)) := set_keep
  have DX := hid ((sk.block n0 (by have := HS3.out; have := NN.out; omega) (by have := NN.out; simp; omega)).trans D3.out)
  have EX := hid (E3.out.later sk (by have := NN.out; omega) (by have := NN.out; omega))
  have KX := hid (K3.out.trans' sk (fun b hb hm => by simp at hm; have := NN.out; omega))
  have HX := hid (Nat.lt_of_lt_of_le HS3.out sk.size)
  clear sk J3 D3 K3 HS3 E3
  have J3 := JX
  have D3 := DX
  have K3 := KX
  have HS3 := HX
  have E3 := EX
  clear JX DX KX HX EX

  obtain ⟨x4, s4, e4⟩ : ∃ x s, numE 1 s3 = (x, s) := ⟨_, _, rfl⟩
  have N4 := hid e4
  clear e4
  go_wp2_with fail
  have A := E3.out.num 1
  rw [N4.out] at A
  refine A.mono ?_
  rintro e u3 ⟨rfl, ey, kk⟩
  have JX := hid ((kk.block n2 HS3.out (by have := NN.out; simp; omega)).trans J3.out)
  have DX := hid ((kk.block n0 (by have := HS3.out; have := NN.out; omega) (by have := NN.out; simp; omega)).trans D3.out)
  have KX := hid (K3.out.trans' kk (fun b hb hm => by simp at hm; have := NN.out; omega))
  have HX := hid (Nat.lt_of_lt_of_le HS3.out kk.size)
  clear J3 D3 K3 HS3
  have J4 := JX
  have D4 := DX
  have K4 := KX
  have HS4 := HX
  clear JX DX KX HX
  have E4 := hid ey
  clear A ey kk E3
  obtain ⟨cc, ff⟩ := five_cells J4.out 3
  change u3.cell? ⟨n2, 3, none⟩ = some (.int .i64 0) at cc
  have JX := hid (show (u3.setCell ⟨n2, 3, none⟩ (.int .i64 x4)).heap[n2]? = some (.cells #[.int .i64 x1, .int .i64 x2, .int .i64 x3, .int .i64 x4, .int .i64 0, .bool false, .slice none 0 0, .slice none 0 0] 25 (0, 0)) from set_five (i := 3) J4.out (.int .i64 x4))
  have sk : Keeps [n2] u3 (u3.setCell ⟨n2, 3, none⟩ (.int .i64 x4)) := set_keep
  have DX := hid ((sk.block n0 (by have := HS4.out; have := NN.out; omega) (by have := NN.out; simp; omega)).trans D4.out)
  have EX := hid (E4.out.later sk (by have := NN.out; omega) (by have := NN.out; omega))
  have KX := hid (K4.out.trans' sk (fun b hb hm => by simp at hm; have := NN.out; omega))
  have HX := hid (Nat.lt_of_lt_of_le HS4.out sk.size)
  clear sk J4 D4 K4 HS4 E4
  have J4 := JX
  have D4 := DX
  have K4 := KX
  have HS4 := HX
  have E4 := EX
  clear JX DX KX HX EX

  obtain ⟨x5, s5, e5⟩ : ∃ x s, numE 3 s4 = (x, s) := ⟨_, _, rfl⟩
  have N5 := hid e5
  clear e5
  go_wp2_with fail
  have A := E4.out.num 3
  rw [N5.out] at A
  refine A.mono ?_
  rintro e u4 ⟨rfl, ey, kk⟩
  have JX := hid ((kk.block n2 HS4.out (by have := NN.out; simp; omega)).trans J4.out)
  have DX := hid ((kk.block n0 (by have := HS4.out; have := NN.out; omega) (by have := NN.out; simp; omega)).trans D4.out)
  have KX := hid (K4.out.trans' kk (fun b hb hm => by simp at hm; have := NN.out; omega))
  have HX := hid (Nat.lt_of_lt_of_le HS4.out kk.size)
  clear J4 D4 K4 HS4
  have J5 := JX
  have D5 := DX
  have K5 := KX
  have HS5 := HX
  clear JX DX KX HX
  have E5 := hid ey
  clear A ey kk E4
  obtain ⟨cc, ff⟩ := five_cells J5.out 4
  change u4.cell? ⟨n2, 4, none⟩ = some (.int .i64 0) at cc
  have JX := hid (show (u4.setCell ⟨n2, 4, none⟩ (.int .i64 x5)).heap[n2]? = some (.cells #[.int .i64 x1, .int .i64 x2, .int .i64 x3, .int .i64 x4, .int .i64 x5, .bool false, .slice none 0 0, .slice none 0 0] 25 (0, 0)) from set_five (i := 4) J5.out (.int .i64 x5))
  have sk : Keeps [n2] u4 (u4.setCell ⟨n2, 4, none⟩ (.int .i64 x5)) := set_keep
  have DX := hid ((sk.block n0 (by have := HS5.out; have := NN.out; omega) (by have := NN.out; simp; omega)).trans D5.out)
  have EX := hid (E5.out.later sk (by have := NN.out; omega) (by have := NN.out; omega))
  have KX := hid (K5.out.trans' sk (fun b hb hm => by simp at hm; have := NN.out; omega))
  have HX := hid (Nat.lt_of_lt_of_le HS5.out sk.size)
  clear sk J5 D5 K5 HS5 E5
  have J5 := JX
  have D5 := DX
  have K5 := KX
  have HS5 := HX
  have E5 := EX
  clear JX DX KX HX EX

  obtain ⟨x6, s6, e6⟩ : ∃ x s, boolE s5 = (x, s) := ⟨_, _, rfl⟩
  have N6 := hid e6
  clear e6
  go_wp2_with fail
  have A := E5.out.bool
  rw [N6.out] at A
  refine A.mono ?_
  rintro e u5 ⟨rfl, ey, kk⟩
  have JX := hid ((kk.block n2 HS5.out (by have := NN.out; simp; omega)).trans J5.out)
  have DX := hid ((kk.block n0 (by have := HS5.out; have := NN.out; omega) (by have := NN.out; simp; omega)).trans D5.out)
  have KX := hid (K5.out.trans' kk (fun b hb hm => by simp at hm; have := NN.out; omega))
  have HX := hid (Nat.lt_of_lt_of_le HS5.out kk.size)
  clear J5 D5 K5 HS5
  have J6 := JX
  have D6 := DX
  have K6 := KX
  have HS6 := HX
  clear JX DX KX HX
  have E6 := hid ey
  clear A ey kk E5
  obtain ⟨cc, ff⟩ := five_cells J6.out 5
  change u5.cell? ⟨n2, 5, none⟩ = some (.bool false) at cc
  have JX := hid (show (u5.setCell ⟨n2, 5, none⟩ (.bool x6)).heap[n2]? = some (.cells #[.int .i64 x1, .int .i64 x2, .int .i64 x3, .int .i64 x4, .int .i64 x5, .bool x6, .slice none 0 0, .slice none 0 0] 25 (0, 0)) from set_five (i := 5) J6.out (.bool x6))
  have sk : Keeps [n2] u5 (u5.setCell ⟨n2, 5, none⟩ (.bool x6)) := set_keep
  have DX := hid ((sk.block n0 (by have := HS6.out; have := NN.out; omega) (by have := NN.out; simp; omega)).trans D6.out)
  have EX := hid (E6.out.later sk (by have := NN.out; omega) (by have := NN.out; omega))
  have KX := hid (K6.out.trans' sk (fun b hb hm => by simp at hm; have := NN.out; omega))
  have HX := hid (Nat.lt_of_lt_of_le HS6.out sk.size)
  clear sk J6 D6 K6 HS6 E6
  have J6 := JX
  have D6 := DX
  have K6 := KX
  have HS6 := HX
  have E6 := EX
  clear JX DX KX HX EX

  obtain ⟨x7, s7, e7⟩ : ∃ x s, numE 2 s6 = (x, s) := ⟨_, _, rfl⟩
  have N7 := hid e7
  have HLO := numE_lowB (st := s6) E6.out.bytes 2
  rw [e7] at HLO
  simp only at HLO
  clear e7
  go_wp2_with fail
  have A := E6.out.num 2
  rw [N7.out] at A
  refine A.mono ?_
  rintro e u6 ⟨rfl, ey, kk⟩
  have JX := hid ((kk.block n2 HS6.out (by have := NN.out; simp; omega)).trans J6.out)
  have DX := hid ((kk.block n0 (by have := HS6.out; have := NN.out; omega) (by have := NN.out; simp; omega)).trans D6.out)
  have KX := hid (K6.out.trans' kk (fun b hb hm => by simp at hm; have := NN.out; omega))
  have HX := hid (Nat.lt_of_lt_of_le HS6.out kk.size)
  clear J6 D6 K6 HS6
  have J7 := JX
  have D7 := DX
  have K7 := KX
  have HS7 := HX
  clear JX DX KX HX
  have E7 := hid ey
  clear A ey kk E6
  obtain ⟨c, rfl⟩ := Int.eq_ofNat_of_zero_le HLO
  clear HLO
  have HU := HS7

  by_cases h4 : 4000 < c
  case pos =>
    have H4 := hid h4
    have d4 : decide ((4000 : Int) < (c : Int)) = true := by simp; omega
    clear h4
    go_wp2_with fail
    obtain ⟨s8, hs8⟩ : ∃ z : PSt, z = (s7.1, 3) := ⟨_, rfl⟩
    have FA := rFall_any E7.out 3
    rw [if_pos (numE_pos N7.out (by have := H4.out; omega)), ← hs8] at FA
    refine FA.mono ?_
    rintro e uf ⟨rfl, ey, kk⟩
    have JX := hid ((kk.block n2 HS7.out (by have := NN.out; simp; omega)).trans J7.out)
    have DX := hid ((kk.block n0 (by have := HS7.out; have := NN.out; omega) (by have := NN.out; simp; omega)).trans D7.out)
    have KX := hid (K7.out.trans' kk (fun b hb hm => by simp at hm; have := NN.out; omega))
    have HX := hid (Nat.lt_of_lt_of_le HS7.out kk.size)
    clear J7 D7 K7 HS7
    have Jz := JX
    have Dz := DX
    have Kz := KX
    have HSz := HX
    clear JX DX KX HX
    have Ez := hid ey
    have HU := hid HSz.out
    have S8N := hid (show s8.2 ≠ 0 by rw [hs8]; show (3 : Int) ≠ 0; decide)
    have LS := hid (show (lsG enC.g s6).2 = s8 by unfold lsG; rw [N7.out]; simp only; rw [if_pos (by have := H4.out; omega), hs8])
    have LG := hid (show s8.2 = 0 → (lsG enC.g s6).1 = ([] : List Ent) from fun h => absurd h S8N.out)
    have Oz := hid (OwnT.nil KEnt 28 uf uf.heap.size)
    clear ey kk FA E7 hs8 d4
    go_wp2_with fail
    go_loopw [7] (fun iv wr => iv = .int .i64 0 ∧ wr = uf) (fun _ _ => 0)
    case atStart => exact ⟨rfl, rfl⟩
    case round =>
      obtain ⟨rfl, rfl⟩ := hrel
      obtain ⟨cb, fb⟩ := Ez.out.cells
      have hb0 : (s8.2 == 0) = false := by have := S8N.out; simpa using this
      have dc : decide ((0 : Int) < (c : Int)) = true := by have := H4.out; simp; omega
      have dc2 : decide (0 < c) = true := by have := H4.out; simp; omega
      have dc3 : 0 < c := by have := H4.out; omega
      obtain ⟨x8, s9, e8⟩ : ∃ x s, rawE s8 = (x, s) := ⟨_, _, rfl⟩
      have N8 := hid e8
      clear e8
      go_wp2_with fail
      have A := Ez.out.raw
      rw [N8.out] at A
      refine A.mono ?_
      rintro e y0 ⟨⟨a8, c8, rfl, or_, on_⟩, ey, kk⟩
      have OR8 := hid or_
      have ON8 := hid (fun ad had => Nat.lt_of_lt_of_le HSz.out (on_ ad had))
      have JX := hid ((kk.block n2 HSz.out (by have := NN.out; simp; omega)).trans Jz.out)
      have DX := hid ((kk.block n0 (by have := HSz.out; have := NN.out; omega) (by have := NN.out; simp; omega)).trans Dz.out)
      have KX := hid (Kz.out.trans' kk (fun b hb hm => by simp at hm; have := NN.out; omega))
      have HX := hid (Nat.lt_of_lt_of_le HSz.out kk.size)
      clear Jz Dz Kz HSz
      have Jy := JX
      have Dy := DX
      have Ky := KX
      have HSy := HX
      clear JX DX KX HX
      have Ey := hid ey
      have Oy := hid (Oz.out.keep kk (fun b hb => by simp at hb; have := HU.out; have := NN.out; omega))
      clear A ey kk Ez Oz or_ on_
      obtain ⟨cc, ff⟩ := five_cells Jy.out 7
      change y0.cell? ⟨n2, 7, none⟩ = some (.slice none 0 0) at cc
      have JX := hid (show (y0.setCell ⟨n2, 7, none⟩ (.slice a8 x8.length c8)).heap[n2]? = some (.cells #[.int .i64 x1, .int .i64 x2, .int .i64 x3, .int .i64 x4, .int .i64 x5, .bool x6, .slice none (([] : List Ent)).length 0, .slice a8 x8.length c8] 25 (0, 0)) from set_five (i := 7) Jy.out (.slice a8 x8.length c8))
      have sk : Keeps [n2] y0 (y0.setCell ⟨n2, 7, none⟩ (.slice a8 x8.length c8)) := set_keep
      have DX := hid ((sk.block n0 (by have := HSy.out; have := NN.out; omega) (by have := NN.out; simp; omega)).trans Dy.out)
      have EX := hid (Ey.out.later sk (by have := NN.out; omega) (by have := NN.out; omega))
      have KX := hid (Ky.out.trans' sk (fun b hb hm => by simp at hm; have := NN.out; omega))
      have HX := hid (Nat.lt_of_lt_of_le HSy.out sk.size)
      have OX := hid (Oy.out.keep sk (fun b hb => by simp at hb; have := HU.out; have := NN.out; omega))
      have OR9 := hid (OR8.out.keep sk (by
        intro ad n c e hne hm
        injection e with e _ _
        have := ON8.out ad e
        simp at hm
        omega))
      clear sk Jy Dy Ky HSy Ey
      have Jy := JX
      have Dy := DX
      have Ky := KX
      have HSy := HX
      have Ey := EX
      clear JX DX KX HX EX
      go_wp2_with fail
      clear cc ff
      obtain ⟨v9, he9⟩ := Ey.out
      refine (reend_any _ n0 n1 v9 s9.1 s9.2 he9).mono ?_
      rintro e _ ⟨rfl, rfl⟩
      obtain ⟨z9, hz9⟩ : ∃ z, z = endOf s9.1 s9.2 := ⟨_, rfl⟩
      rw [← hz9]
      have HZ9 := hid hz9
      have HF1 : formW s1 (!okE x1) = t1 := by
        rw [HT1.out]
        congr 1
        unfold okE
        by_cases h : x1 ≤ 18 <;> simp [h] <;> omega
      have N7L : lsG enC.g s6 = ((lsG enC.g s6).1, s8) := Prod.ext rfl LS.out
      have GS : Hid (rpC.g st = (⟨x1, x2, x3, x4, x5, x6, (lsG enC.g s6).1, x8⟩, s9)) := hid (map_is (seq_is (chk_is (n1_is N1.out) HF1) (seq_is (n2_is N2.out) (seq_is (n2_is N3.out) (seq_is (n1_is N4.out) (seq_is (n3_is N5.out) (seq_is (bo_is N6.out) (seq_is (ls_is N7L) (ro_is N8.out)))))))))
      have YZ : Hid (y = z9) := hid (by rw [HY.out, HZ9.out]; unfold decW; rw [← HST.out, GS.out])
      clear hz9 he9 HF1 N7L
      by_cases h0 : z9 = 0
      · have Y0 := hid (show y = 0 by rw [YZ.out]; exact h0)
        have S8 : (s8).2 = 0 := by
          by_cases hb : (s8).2 = 0
          · exact hb
          · have e1 := rawE_stay hb
            rw [N8.out] at e1
            injection e1 with _ e1
            rw [HZ9.out, e1] at h0
            unfold endOf at h0
            rw [if_neg hb] at h0
            exact absurd h0 hb
        have RR := hid (show r = ⟨x1, x2, x3, x4, x5, x6, ([] : List Ent), x8⟩ by rw [HR.out, ← HST.out, GS.out, LG.out S8])
        have f0 : (z9 != 0) = false := by simpa using h0
        clear h0 S8
        obtain ⟨q1, q2⟩ := setRow_keepsN (cs := (Rp.cells ⟨x1, x2, x3, x4, x5, x6, ([] : List Ent), x8⟩ (.slice none (([] : List Ent)).length 0) (.slice a8 x8.length c8)).toArray) Dy.out
        have Q1 := hid q1
        have Q2 := hid q2
        clear q1 q2
        have RT := hid (range_ofN (cs := (Rp.cells ⟨x1, x2, x3, x4, x5, x6, ([] : List Ent), x8⟩ (.slice none (([] : List Ent)).length 0) (.slice a8 x8.length c8))) Jy.out rfl)
        go_wp2_with (first | (refine wpList_is rfl _ _ (exec_load _ _ _ _ rfl rfl (loadRp 25 urRep srRep _ n2 ⟨x1, x2, x3, x4, x5, x6, ([] : List Ent), x8⟩ _ _ RT.out)) ?_) | (refine wpList_noval rfl _ (exec_storeWhole 25 _ _ rfl n0 (rpZ.cells (.slice none 0 0) (.slice none 0 0)).toArray (Rp.cells ⟨x1, x2, x3, x4, x5, x6, ([] : List Ent), x8⟩ (.slice none (([] : List Ent)).length 0) (.slice a8 x8.length c8)) Dy.out rfl rfl rfl (by kernel_rfl) (one_rp _ _ _ _ _ _ _)) ?_) | fail)
        refine bodyPost_ret (mix_ret (cs := (Rp.cells ⟨x1, x2, x3, x4, x5, x6, ([] : List Ent), x8⟩ (.slice none (([] : List Ent)).length 0) (.slice a8 x8.length c8))) (z := .int .i64 0) rfl urRep (by kernel_rfl) rfl rfl (range_ofN Q1.out rfl)) rfl ?_
        rw [RR.out]
        refine ⟨Ky.out.trans' Q2.out (S := []) (fun b hb hm => by simp at hm; have := NN.out; omega), Or.inl ⟨Y0.out, .slice none (([] : List Ent)).length 0, a8, c8, rfl, ?_, ?_⟩⟩
        · exact (OX.out.keep Q2.out (fun b hb => by simp at hb; have := HU.out; have := NN.out; omega)).at cEnt
        · refine OR9.out.keep Q2.out ?_
          intro ad n c e hne hm
          injection e with e _ _
          have := ON8.out ad e
          simp at hm
          have := NN.out
          omega
      · have H0 := hid h0
        have f0 : (z9 != 0) = true := by simpa using h0
        clear h0
        obtain ⟨q1, q2⟩ := setRow_keepsN (cs := (rpZ.cells (.slice none 0 0) (.slice none 0 0)).toArray) Dy.out
        have Q1 := hid q1
        have Q2 := hid q2
        clear q1 q2
        go_wp2_with (first | (refine wpList_noval rfl _ (exec_storeWhole 25 _ _ rfl n0 (rpZ.cells (.slice none 0 0) (.slice none 0 0)).toArray (rpZ.cells (.slice none 0 0) (.slice none 0 0)) Dy.out rfl rfl rfl (by kernel_rfl) (one_rp _ _ _ _ _ _ _)) ?_) | fail)
        refine bodyPost_ret (mix_ret (cs := rpZ.cells (.slice none 0 0) (.slice none 0 0)) (z := .int .i64 z9) rfl urRep (by kernel_rfl) rfl rfl (range_ofN Q1.out rfl)) rfl ?_
        exact ⟨Ky.out.trans' Q2.out (S := []) (fun b hb hm => by simp at hm; have := NN.out; omega), Or.inr ⟨by rw [YZ.out]; exact H0.out, by rw [YZ.out]; rfl⟩⟩
  have H4 := hid h4
  have d4 : decide ((4000 : Int) < (c : Int)) = false := by simp; omega
  have LSG := hid (show lsG enC.g s6 = itG enC.g s7 c by unfold lsG; rw [N7.out]; simp only; rw [if_neg (by omega), Int.toNat_natCast])
  clear h4
  go_wp2_with fail
  go_loopw [7] (fun iv wr => ∃ (k : Nat) (a : Option Addr) (cp : Nat), k ≤ c ∧ iv = .int .i64 (k : Int) ∧ Hid (OwnT KEnt 28 wr u6.heap.size (.slice a (itG enC.g s7 k).1.length cp) (itG enC.g s7 k).1) ∧ Hid (REyL wr n0 n1 (itG enC.g s7 k).2) ∧ Hid (wr.heap[n2]? = some (.cells #[.int .i64 x1, .int .i64 x2, .int .i64 x3, .int .i64 x4, .int .i64 x5, .bool x6, .slice a (itG enC.g s7 k).1.length cp, .slice none 0 0] 25 (0, 0))) ∧ Hid (wr.heap[n0]? = some (.cells (rpZ.cells (.slice none 0 0) (.slice none 0 0)).toArray 25 (0, 0))) ∧ Hid (Keeps [] w wr) ∧ Hid (u6.heap.size ≤ wr.heap.size)) (fun iv _ => c - (intOf iv).toNat)
  case atStart => exact ⟨0, none, 0, Nat.zero_le _, rfl, hid (OwnT.nil _ _ _ _), E7, J7, D7, K7, hid (Nat.le_refl _)⟩
  case round =>
    obtain ⟨k, a, cp, hk, rfl, Oz, Ez, Jz, Dz, Kz, HGE⟩ := hrel
    have HSz := hid (Nat.lt_of_lt_of_le HU.out HGE.out)
    have HLK := hid (itG_len enC.g s7 k)
    obtain ⟨l, hl⟩ : ∃ z, z = (itG enC.g s7 k).1 := ⟨_, rfl⟩
    obtain ⟨st2, hst2⟩ : ∃ z, z = (itG enC.g s7 k).2 := ⟨_, rfl⟩
    have HIT := hid (show itG enC.g s7 k = (l, st2) from Prod.ext hl.symm hst2.symm)
    rw [← hl] at Oz Jz HLK
    rw [← hst2] at Ez
    clear hl hst2
    obtain ⟨cb, fb⟩ := Ez.out.cells
    by_cases hlt : k < c
    · by_cases hb : st2.2 = 0
      · have hb0 : (st2.2 == 0) = true := by simpa using hb
        clear hb
        have hk4 : k < 4000 := by have := H4.out; omega
        obtain ⟨b1, t2, q1⟩ : ∃ x s, rawE st2 = (x, s) := ⟨_, _, rfl⟩
        have M1 := hid q1
        clear q1
        go_wp2_with fail
        have A := Ez.out.raw
        rw [M1.out] at A
        refine A.mono ?_
        rintro e y0 ⟨⟨a1, c1, rfl, or_, on_⟩, ey, kk⟩
        have cv := conv_row or_
        have JX := hid ((kk.block n2 HSz.out (by have := NN.out; simp; omega)).trans Jz.out)
        have DX := hid ((kk.block n0 (by have := HSz.out; have := NN.out; omega) (by have := NN.out; simp; omega)).trans Dz.out)
        have KX := hid (Kz.out.trans' kk (fun b hb hm => by simp at hm; have := NN.out; omega))
        have HX := hid (Nat.lt_of_lt_of_le HSz.out kk.size)
        clear Jz Dz Kz HSz
        have Ja := JX
        have Da := DX
        have Ka := KX
        have HSa := HX
        clear JX DX KX HX
        have Ea := hid ey
        have Oa := hid (Oz.out.keep kk (fun b hb => by simp at hb; have := HU.out; have := NN.out; omega))
        have GE1 := hid (Nat.le_trans HGE.out kk.size)
        clear A ey kk Ez Oz or_ on_ cb fb hb0
        obtain ⟨nm, hnm⟩ : ∃ z, z = strOfNums b1 := ⟨_, rfl⟩
        rw [← hnm] at cv
        have HNM := hid hnm
        clear hnm
        have k1 : Keeps [] y0 (y0.alloc (.cells (KEnt.cells ⟨nm, 0, false⟩).toArray 28)) := (Keeps.refl [] y0).alloc _
        have FXa := hid (heap_alloc_new y0 (.cells (KEnt.cells ⟨nm, 0, false⟩).toArray 28))
        have Eb := hid (Ea.out.more k1)
        have Ob := hid (Oa.out.later k1)
        have Jb := hid ((k1.block n2 HSa.out (by simp)).trans Ja.out)
        have Db := hid ((k1.block n0 (by have := HSa.out; have := NN.out; omega) (by simp)).trans Da.out)
        have Kb := hid (Ka.out.trans k1)
        have HSb := hid (Nat.lt_of_lt_of_le HSa.out k1.size)
        have OFF := hid (show ∀ b, (Value.slice a l.length cp).ownBlock = some b → b < y0.heap.size ∧ u6.heap.size ≤ b from fun b hb => ⟨(Oa.out.blk b hb).2, (Oa.out.blk b hb).1⟩)
        have HG1 := hid (show y0.heap.size < (y0.alloc (.cells (KEnt.cells ⟨nm, 0, false⟩).toArray 28)).heap.size by simp)
        have HG0 := hid HSa.out
        clear k1 Ea Oa Ja Da Ka HSa
        go_wp2_with (first | (refine wpList_is rfl _ _ (exec_ent _ nm rfl rfl) ?_) | (refine wpList_allocT cEnt rfl rfl ?_) | (refine wpList_newT cEnt rfl y0 _ _ rfl rfl rfl ⟨nm, 0, false⟩ rfl ?_; refine Hid.out ?_) | fail)
        refine hid ?_
        clear cv
        obtain ⟨gx, hgx⟩ : ∃ z, z = y0.heap.size := ⟨_, rfl⟩
        obtain ⟨y1, hy1⟩ : ∃ z, z = y0.alloc (.cells (KEnt.cells ⟨nm, 0, false⟩).toArray 28) := ⟨_, rfl⟩
        rw [← hy1] at FXa Eb Ob Jb Db Kb HSb HG1 ⊢
        rw [← hgx] at FXa OFF HG0 HG1 GE1 ⊢
        clear hgx hy1
        obtain ⟨xi, t3, q2⟩ : ∃ x s, numE 2 t2 = (x, s) := ⟨_, _, rfl⟩
        have M2 := hid q2
        clear q2
        go_wp2_with fail
        have A := Eb.out.num 2
        rw [M2.out] at A
        refine A.mono ?_
        rintro e y2 ⟨rfl, ey, kk⟩
        have FXb := hid ((kk.block gx HG1.out (by have := HG0.out; have := NN.out; simp; omega)).trans FXa.out)
        have Oc := hid (Ob.out.keep kk (fun b hb => by simp at hb; have := HU.out; have := NN.out; omega))
        have HGc := hid (Nat.lt_of_lt_of_le HG1.out kk.size)
        have JX := hid ((kk.block n2 HSb.out (by have := NN.out; simp; omega)).trans Jb.out)
        have DX := hid ((kk.block n0 (by have := HSb.out; have := NN.out; omega) (by have := NN.out; simp; omega)).trans Db.out)
        have KX := hid (Kb.out.trans' kk (fun b hb hm => by simp at hm; have := NN.out; omega))
        have HX := hid (Nat.lt_of_lt_of_le HSb.out kk.size)
        clear Jb Db Kb HSb
        have Jc := JX
        have Dc := DX
        have Kc := KX
        have HSc := HX
        clear JX DX KX HX
        have Ec := hid ey
        clear A ey kk Eb Ob FXa HG1
        obtain ⟨cc, ff⟩ := five_cells FXb.out 1
        change y2.cell? ⟨gx, 1, none⟩ = some (.int .i64 0) at cc
        have FXn := hid (show (y2.setCell ⟨gx, 1, none⟩ (.int .i64 xi)).heap[gx]? = some (.cells (KEnt.cells ⟨nm, xi, false⟩).toArray 28 (0, 0)) from set_five (i := 1) FXb.out (.int .i64 xi))
        have sk : Keeps [gx] y2 (y2.setCell ⟨gx, 1, none⟩ (.int .i64 xi)) := set_keep
        have JX := hid ((sk.block n2 HSc.out (by have := HG0.out; simp; omega)).trans Jc.out)
        have DX := hid ((sk.block n0 (by have := HSc.out; have := NN.out; omega) (by have := HG0.out; have := NN.out; simp; omega)).trans Dc.out)
        have EX := hid (Ec.out.later sk (by have := HG0.out; have := NN.out; omega) (by have := HG0.out; have := NN.out; omega))
        have KX := hid (Kc.out.trans' sk (fun b hb hm => by simp at hm; have := HG0.out; have := NN.out; omega))
        have HX := hid (Nat.lt_of_lt_of_le HSc.out sk.size)
        have OX := hid (Oc.out.off sk (fun b hb => by have := (OFF.out b hb).1; simp; omega))
        have HGX := hid (Nat.lt_of_lt_of_le HGc.out sk.size)
        clear sk Jc Dc Kc HSc Ec Oc HGc FXb
        have FXc := FXn
        have Jc := JX
        have Dc := DX
        have Kc := KX
        have HSc := HX
        have Ec := EX
        have Oc := OX
        have HGc := HGX
        clear JX DX KX HX EX OX HGX FXn
        go_wp2_with fail
        clear cc ff
        obtain ⟨xb, t4, q3⟩ : ∃ x s, boolE t3 = (x, s) := ⟨_, _, rfl⟩
        have M3 := hid q3
        clear q3
        have A := Ec.out.bool
        rw [M3.out] at A
        refine A.mono ?_
        rintro e y3 ⟨rfl, ey, kk⟩
        have FXb := hid ((kk.block gx HGc.out (by have := HG0.out; have := NN.out; simp; omega)).trans FXc.out)
        have Od := hid (Oc.out.keep kk (fun b hb => by simp at hb; have := HU.out; have := NN.out; omega))
        have HGd := hid (Nat.lt_of_lt_of_le HGc.out kk.size)
        have JX := hid ((kk.block n2 HSc.out (by have := NN.out; simp; omega)).trans Jc.out)
        have DX := hid ((kk.block n0 (by have := HSc.out; have := NN.out; omega) (by have := NN.out; simp; omega)).trans Dc.out)
        have KX := hid (Kc.out.trans' kk (fun b hb hm => by simp at hm; have := NN.out; omega))
        have HX := hid (Nat.lt_of_lt_of_le HSc.out kk.size)
        clear Jc Dc Kc HSc
        have Jd := JX
        have Dd := DX
        have Kd := KX
        have HSd := HX
        clear JX DX KX HX
        have Ed := hid ey
        clear A ey kk Ec Oc FXc HGc
        obtain ⟨cc, ff⟩ := five_cells FXb.out 2
        change y3.cell? ⟨gx, 2, none⟩ = some (.bool false) at cc
        have FXn := hid (show (y3.setCell ⟨gx, 2, none⟩ (.bool xb)).heap[gx]? = some (.cells (KEnt.cells ⟨nm, xi, xb⟩).toArray 28 (0, 0)) from set_five (i := 2) FXb.out (.bool xb))
        have sk : Keeps [gx] y3 (y3.setCell ⟨gx, 2, none⟩ (.bool xb)) := set_keep
        have JX := hid ((sk.block n2 HSd.out (by have := HG0.out; simp; omega)).trans Jd.out)
        have DX := hid ((sk.block n0 (by have := HSd.out; have := NN.out; omega) (by have := HG0.out; have := NN.out; simp; omega)).trans Dd.out)
        have EX := hid (Ed.out.later sk (by have := HG0.out; have := NN.out; omega) (by have := HG0.out; have := NN.out; omega))
        have KX := hid (Kd.out.trans' sk (fun b hb hm => by simp at hm; have := HG0.out; have := NN.out; omega))
        have HX := hid (Nat.lt_of_lt_of_le HSd.out sk.size)
        have OX := hid (Od.out.off sk (fun b hb => by have := (OFF.out b hb).1; simp; omega))
        have HGX := hid (Nat.lt_of_lt_of_le HGd.out sk.size)
        clear sk Jd Dd Kd HSd Ed Od HGd FXb
        have FXd := FXn
        have Jd := JX
        have Dd := DX
        have Kd := KX
        have HSd := HX
        have Ed := EX
        have Od := OX
        have HGd := HGX
        clear JX DX KX HX EX OX HGX FXn
        obtain ⟨y4, hy4⟩ : ∃ z, z = y3.setCell ⟨gx, 2, none⟩ (.bool xb) := ⟨_, rfl⟩
        have HY4 := hid hy4
        clear hy4
        have RX := hid (range_ofN (cs := KEnt.cells ⟨nm, xi, xb⟩) FXd.out rfl)
        have NX := hid (show itG enC.g s7 (k + 1) = (l ++ [⟨nm, xi, xb⟩], t4) by
          rw [itG_succ, HIT.out]
          have e1 : txE st2 = (nm, t2) := by unfold txE; rw [M1.out, HNM.out]
          have e2 : enC.g st2 = (⟨nm, xi, xb⟩, t4) := map_is (seq_is (tx_is e1) (seq_is (n2_is M2.out) (bo_is M3.out)))
          simp only [e2])
        rw [← HY4.out] at RX Jd Dd Kd HSd Ed Od HGd
        have k5 : Keeps [] y4 (y4.alloc (.cells (KEnt.cells ⟨nm, xi, xb⟩).toArray 28)) := (Keeps.refl [] y4).alloc _
        obtain ⟨a', c', w6, hrun, o6, k6, _⟩ := append_ls cEnt (Od.out.later k5) _ 1 1 (one_ls y4 (⟨nm, xi, xb⟩ : Ent) 28 (K := KEnt)) (by have := HLK.out; simp; omega) (by have := k5.size; have := HGd.out; have := GE1.out; omega) 22
        have RUN := hid hrun
        have OB6 := hid (show ∀ b ∈ (Value.slice a l.length cp).ownBlock.toList, u6.heap.size ≤ b from fun b hb => (OFF.out b (by simpa using hb)).2)
        have Je := hid ((k6.block n2 (by have := HSd.out; have := k5.size; omega) (fun hm => by have := OB6.out n2 hm; have := HU.out; omega)).trans ((k5.block n2 HSd.out (by simp)).trans Jd.out))
        have De := hid ((k6.block n0 (by have := HSd.out; have := k5.size; have := NN.out; omega) (fun hm => by have := OB6.out n0 hm; have := HU.out; have := NN.out; omega)).trans ((k5.block n0 (by have := HSd.out; have := NN.out; omega) (by simp)).trans Dd.out))
        have Ee := hid (show REyL w6 n0 n1 t4 from by
          obtain ⟨v2, he⟩ := Ed.out
          refine ⟨v2, (he.keep k5 (by simp) (by simp)).keep k6 ?_ ?_⟩
          · intro hm
            have := OB6.out n1 hm; have := HU.out; have := NN.out; omega
          · intro b hb
            have := OB6.out b hb; have := HU.out; have := NN.out; omega)
        have Ke := hid ((Kd.out.trans k5).trans' k6 (S := []) (fun b hb hm => by have := OB6.out b hm; have := HU.out; have := NN.out; omega))
        have HSe := hid (show n2 < w6.heap.size by have := HSd.out; have := k5.size; have := k6.size; omega)
        have HGe := hid (show u6.heap.size ≤ w6.heap.size by have := HGd.out; have := k5.size; have := k6.size; have := GE1.out; omega)
        have Oe := hid o6
        obtain ⟨cd, fd⟩ := five_cells Jd.out 6
        change y4.cell? ⟨n2, 6, none⟩ = some (.slice a l.length cp) at cd
        obtain ⟨ce, fe⟩ := five_cells Je.out 6
        change w6.cell? ⟨n2, 6, none⟩ = some (.slice a l.length cp) at ce
        clear hrun o6 k6 k5 fd
        rw [HY4.out] at cd RX RUN
        go_wp2_with (first | (refine wpList_loadT cEnt rfl _ rfl gx 0 rfl ⟨nm, xi, xb⟩ RX.out ?_) | (refine wpList_is rfl _ _ (exec_oneT cEnt _ ⟨nm, xi, xb⟩ rfl rfl) ?_) | (at_builtin; refine wpList_is rfl _ _ (exec_appendT 22 _ _ rfl rfl rfl RUN.out) ?_; refine Hid.out ?_) | fail)
        refine hid ?_
        clear cd RX RUN
        have JX := hid (show (w6.setCell ⟨n2, 6, none⟩ (.slice a' (l.length + 1) c')).heap[n2]? = some (.cells #[.int .i64 x1, .int .i64 x2, .int .i64 x3, .int .i64 x4, .int .i64 x5, .bool x6, .slice a' (l.length + 1) c', .slice none 0 0] 25 (0, 0)) from set_five (i := 6) Je.out (.slice a' (l.length + 1) c'))
        have sk : Keeps [n2] w6 (w6.setCell ⟨n2, 6, none⟩ (.slice a' (l.length + 1) c')) := set_keep
        have DX := hid ((sk.block n0 (by have := HSe.out; have := NN.out; omega) (by have := NN.out; simp; omega)).trans De.out)
        have EX := hid (Ee.out.later sk (by have := NN.out; omega) (by have := NN.out; omega))
        have KX := hid (Ke.out.trans' sk (S := []) (fun b hb hm => by simp at hm; have := NN.out; omega))
        have OX := hid (Oe.out.keep sk (fun b hb => by simp at hb; have := HU.out; omega))
        have HX := hid (Nat.le_trans HGe.out sk.size)
        clear sk Je De Ee Ke Oe HSe HGe
        go_wp2_with fail
        clear ce fe
        go_roundw
        case rel =>
          refine ⟨k + 1, a', c', by omega, by go_num, ?_, ?_, ?_, DX, KX, HX⟩
          · rw [NX.out]; have := OX.out; exact hid (by simpa using this)
          · rw [NX.out]; exact EX
          · rw [NX.out]; have := JX.out; exact hid (by simpa using this)
        case measure => simp [intOf]; omega
      · have HBAD := hid hb
        have hb0 : (st2.2 == 0) = false := by simpa using hb
        have LS := hid (show (lsG enC.g s6).2 = st2 by
          rw [LSG.out]
          have e2 := it_stop (c := enC) enC_ok (st := s7) (k := k) (by rw [HIT.out]; exact HBAD.out) (c - k)
          rw [show k + (c - k) = c by omega, HIT.out] at e2
          exact e2)
        have LG := hid (show st2.2 = 0 → (lsG enC.g s6).1 = l from fun h => absurd h HBAD.out)
        clear hb
        obtain ⟨x8, s9, e8⟩ : ∃ x s, rawE st2 = (x, s) := ⟨_, _, rfl⟩
        have N8 := hid e8
        clear e8
        go_wp2_with fail
        have A := Ez.out.raw
        rw [N8.out] at A
        refine A.mono ?_
        rintro e y0 ⟨⟨a8, c8, rfl, or_, on_⟩, ey, kk⟩
        have OR8 := hid or_
        have ON8 := hid (fun ad had => Nat.lt_of_lt_of_le HSz.out (on_ ad had))
        have JX := hid ((kk.block n2 HSz.out (by have := NN.out; simp; omega)).trans Jz.out)
        have DX := hid ((kk.block n0 (by have := HSz.out; have := NN.out; omega) (by have := NN.out; simp; omega)).trans Dz.out)
        have KX := hid (Kz.out.trans' kk (fun b hb hm => by simp at hm; have := NN.out; omega))
        have HX := hid (Nat.lt_of_lt_of_le HSz.out kk.size)
        clear Jz Dz Kz HSz
        have Jy := JX
        have Dy := DX
        have Ky := KX
        have HSy := HX
        clear JX DX KX HX
        have Ey := hid ey
        have Oy := hid (Oz.out.keep kk (fun b hb => by simp at hb; have := HU.out; have := NN.out; omega))
        clear A ey kk Ez Oz or_ on_
        obtain ⟨cc, ff⟩ := five_cells Jy.out 7
        change y0.cell? ⟨n2, 7, none⟩ = some (.slice none 0 0) at cc
        have JX := hid (show (y0.setCell ⟨n2, 7, none⟩ (.slice a8 x8.length c8)).heap[n2]? = some (.cells #[.int .i64 x1, .int .i64 x2, .int .i64 x3, .int .i64 x4, .int .i64 x5, .bool x6, .slice a (l).length cp, .slice a8 x8.length c8] 25 (0, 0)) from set_five (i := 7) Jy.out (.slice a8 x8.length c8))
        have sk : Keeps [n2] y0 (y0.setCell ⟨n2, 7, none⟩ (.slice a8 x8.length c8)) := set_keep
        have DX := hid ((sk.block n0 (by have := HSy.out; have := NN.out; omega) (by have := NN.out; simp; omega)).trans Dy.out)
        have EX := hid (Ey.out.later sk (by have := NN.out; omega) (by have := NN.out; omega))
        have KX := hid (Ky.out.trans' sk (fun b hb hm => by simp at hm; have := NN.out; omega))
        have HX := hid (Nat.lt_of_lt_of_le HSy.out sk.size)
        have OX := hid (Oy.out.keep sk (fun b hb => by simp at hb; have := HU.out; have := NN.out; omega))
        have OR9 := hid (OR8.out.keep sk (by
          intro ad n c e hne hm
          injection e with e _ _
          have := ON8.out ad e
          simp at hm
          omega))
        clear sk Jy Dy Ky HSy Ey
        have Jy := JX
        have Dy := DX
        have Ky := KX
        have HSy := HX
        have Ey := EX
        clear JX DX KX HX EX
        go_wp2_with fail
        clear cc ff
        obtain ⟨v9, he9⟩ := Ey.out
        refine (reend_any _ n0 n1 v9 s9.1 s9.2 he9).mono ?_
        rintro e _ ⟨rfl, rfl⟩
        obtain ⟨z9, hz9⟩ : ∃ z, z = endOf s9.1 s9.2 := ⟨_, rfl⟩
        rw [← hz9]
        have HZ9 := hid hz9
        have HF1 : formW s1 (!okE x1) = t1 := by
          rw [HT1.out]
          congr 1
          unfold okE
          by_cases h : x1 ≤ 18 <;> simp [h] <;> omega
        have N7L : lsG enC.g s6 = ((lsG enC.g s6).1, st2) := Prod.ext rfl LS.out
        have GS : Hid (rpC.g st = (⟨x1, x2, x3, x4, x5, x6, (lsG enC.g s6).1, x8⟩, s9)) := hid (map_is (seq_is (chk_is (n1_is N1.out) HF1) (seq_is (n2_is N2.out) (seq_is (n2_is N3.out) (seq_is (n1_is N4.out) (seq_is (n3_is N5.out) (seq_is (bo_is N6.out) (seq_is (ls_is N7L) (ro_is N8.out)))))))))
        have YZ : Hid (y = z9) := hid (by rw [HY.out, HZ9.out]; unfold decW; rw [← HST.out, GS.out])
        clear hz9 he9 HF1 N7L
        by_cases h0 : z9 = 0
        · have Y0 := hid (show y = 0 by rw [YZ.out]; exact h0)
          have S8 : (st2).2 = 0 := by
            by_cases hb : (st2).2 = 0
            · exact hb
            · have e1 := rawE_stay hb
              rw [N8.out] at e1
              injection e1 with _ e1
              rw [HZ9.out, e1] at h0
              unfold endOf at h0
              rw [if_neg hb] at h0
              exact absurd h0 hb
          have RR := hid (show r = ⟨x1, x2, x3, x4, x5, x6, l, x8⟩ by rw [HR.out, ← HST.out, GS.out, LG.out S8])
          have f0 : (z9 != 0) = false := by simpa using h0
          clear h0 S8
          obtain ⟨q1, q2⟩ := setRow_keepsN (cs := (Rp.cells ⟨x1, x2, x3, x4, x5, x6, l, x8⟩ (.slice a (l).length cp) (.slice a8 x8.length c8)).toArray) Dy.out
          have Q1 := hid q1
          have Q2 := hid q2
          clear q1 q2
          have RT := hid (range_ofN (cs := (Rp.cells ⟨x1, x2, x3, x4, x5, x6, l, x8⟩ (.slice a (l).length cp) (.slice a8 x8.length c8))) Jy.out rfl)
          go_wp2_with (first | (refine wpList_is rfl _ _ (exec_load _ _ _ _ rfl rfl (loadRp 25 urRep srRep _ n2 ⟨x1, x2, x3, x4, x5, x6, l, x8⟩ _ _ RT.out)) ?_) | (refine wpList_noval rfl _ (exec_storeWhole 25 _ _ rfl n0 (rpZ.cells (.slice none 0 0) (.slice none 0 0)).toArray (Rp.cells ⟨x1, x2, x3, x4, x5, x6, l, x8⟩ (.slice a (l).length cp) (.slice a8 x8.length c8)) Dy.out rfl rfl rfl (by kernel_rfl) (one_rp _ _ _ _ _ _ _)) ?_) | fail)
          refine bodyPost_ret (mix_ret (cs := (Rp.cells ⟨x1, x2, x3, x4, x5, x6, l, x8⟩ (.slice a (l).length cp) (.slice a8 x8.length c8))) (z := .int .i64 0) rfl urRep (by kernel_rfl) rfl rfl (range_ofN Q1.out rfl)) rfl ?_
          rw [RR.out]
          refine ⟨Ky.out.trans' Q2.out (S := []) (fun b hb hm => by simp at hm; have := NN.out; omega), Or.inl ⟨Y0.out, .slice a (l).length cp, a8, c8, rfl, ?_, ?_⟩⟩
          · exact (OX.out.keep Q2.out (fun b hb => by simp at hb; have := HU.out; have := NN.out; omega)).at cEnt
          · refine OR9.out.keep Q2.out ?_
            intro ad n c e hne hm
            injection e with e _ _
            have := ON8.out ad e
            simp at hm
            have := NN.out
            omega
        · have H0 := hid h0
          have f0 : (z9 != 0) = true := by simpa using h0
          clear h0
          obtain ⟨q1, q2⟩ := setRow_keepsN (cs := (rpZ.cells (.slice none 0 0) (.slice none 0 0)).toArray) Dy.out
          have Q1 := hid q1
          have Q2 := hid q2
          clear q1 q2
          go_wp2_with (first | (refine wpList_noval rfl _ (exec_storeWhole 25 _ _ rfl n0 (rpZ.cells (.slice none 0 0) (.slice none 0 0)).toArray (rpZ.cells (.slice none 0 0) (.slice none 0 0)) Dy.out rfl rfl rfl (by kernel_rfl) (one_rp _ _ _ _ _ _ _)) ?_) | fail)
          refine bodyPost_ret (mix_ret (cs := rpZ.cells (.slice none 0 0) (.slice none 0 0)) (z := .int .i64 z9) rfl urRep (by kernel_rfl) rfl rfl (range_ofN Q1.out rfl)) rfl ?_
          exact ⟨Ky.out.trans' Q2.out (S := []) (fun b hb hm => by simp at hm; have := NN.out; omega), Or.inr ⟨by rw [YZ.out]; exact H0.out, by rw [YZ.out]; rfl⟩⟩
    · obtain rfl : k = c := by omega
      have LS := hid (show (lsG enC.g s6).2 = st2 by rw [LSG.out, HIT.out])
      have LG := hid (show st2.2 = 0 → (lsG enC.g s6).1 = l from fun _ => by rw [LSG.out, HIT.out])
      obtain ⟨x8, s9, e8⟩ : ∃ x s, rawE st2 = (x, s) := ⟨_, _, rfl⟩
      have N8 := hid e8
      clear e8
      go_wp2_with fail
      have A := Ez.out.raw
      rw [N8.out] at A
      refine A.mono ?_
      rintro e y0 ⟨⟨a8, c8, rfl, or_, on_⟩, ey, kk⟩
      have OR8 := hid or_
      have ON8 := hid (fun ad had => Nat.lt_of_lt_of_le HSz.out (on_ ad had))
      have JX := hid ((kk.block n2 HSz.out (by have := NN.out; simp; omega)).trans Jz.out)
      have DX := hid ((kk.block n0 (by have := HSz.out; have := NN.out; omega) (by have := NN.out; simp; omega)).trans Dz.out)
      have KX := hid (Kz.out.trans' kk (fun b hb hm => by simp at hm; have := NN.out; omega))
      have HX := hid (Nat.lt_of_lt_of_le HSz.out kk.size)
      clear Jz Dz Kz HSz
      have Jy := JX
      have Dy := DX
      have Ky := KX
      have HSy := HX
      clear JX DX KX HX
      have Ey := hid ey
      have Oy := hid (Oz.out.keep kk (fun b hb => by simp at hb; have := HU.out; have := NN.out; omega))
      clear A ey kk Ez Oz or_ on_
      obtain ⟨cc, ff⟩ := five_cells Jy.out 7
      change y0.cell? ⟨n2, 7, none⟩ = some (.slice none 0 0) at cc
      have JX := hid (show (y0.setCell ⟨n2, 7, none⟩ (.slice a8 x8.length c8)).heap[n2]? = some (.cells #[.int .i64 x1, .int .i64 x2, .int .i64 x3, .int .i64 x4, .int .i64 x5, .bool x6, .slice a (l).length cp, .slice a8 x8.length c8] 25 (0, 0)) from set_five (i := 7) Jy.out (.slice a8 x8.length c8))
      have sk : Keeps [n2] y0 (y0.setCell ⟨n2, 7, none⟩ (.slice a8 x8.length c8)) := set_keep
      have DX := hid ((sk.block n0 (by have := HSy.out; have := NN.out; omega) (by have := NN.out; simp; omega)).trans Dy.out)
      have EX := hid (Ey.out.later sk (by have := NN.out; omega) (by have := NN.out; omega))
      have KX := hid (Ky.out.trans' sk (fun b hb hm => by simp at hm; have := NN.out; omega))
      have HX := hid (Nat.lt_of_lt_of_le HSy.out sk.size)
      have OX := hid (Oy.out.keep sk (fun b hb => by simp at hb; have := HU.out; have := NN.out; omega))
      have OR9 := hid (OR8.out.keep sk (by
        intro ad n c e hne hm
        injection e with e _ _
        have := ON8.out ad e
        simp at hm
        omega))
      clear sk Jy Dy Ky HSy Ey
      have Jy := JX
      have Dy := DX
      have Ky := KX
      have HSy := HX
      have Ey := EX
      clear JX DX KX HX EX
      go_wp2_with fail
      clear cc ff
      obtain ⟨v9, he9⟩ := Ey.out
      refine (reend_any _ n0 n1 v9 s9.1 s9.2 he9).mono ?_
      rintro e _ ⟨rfl, rfl⟩
      obtain ⟨z9, hz9⟩ : ∃ z, z = endOf s9.1 s9.2 := ⟨_, rfl⟩
      rw [← hz9]
      have HZ9 := hid hz9
      have HF1 : formW s1 (!okE x1) = t1 := by
        rw [HT1.out]
        congr 1
        unfold okE
        by_cases h : x1 ≤ 18 <;> simp [h] <;> omega
      have N7L : lsG enC.g s6 = ((lsG enC.g s6).1, st2) := Prod.ext rfl LS.out
      have GS : Hid (rpC.g st = (⟨x1, x2, x3, x4, x5, x6, (lsG enC.g s6).1, x8⟩, s9)) := hid (map_is (seq_is (chk_is (n1_is N1.out) HF1) (seq_is (n2_is N2.out) (seq_is (n2_is N3.out) (seq_is (n1_is N4.out) (seq_is (n3_is N5.out) (seq_is (bo_is N6.out) (seq_is (ls_is N7L) (ro_is N8.out)))))))))
      have YZ : Hid (y = z9) := hid (by rw [HY.out, HZ9.out]; unfold decW; rw [← HST.out, GS.out])
      clear hz9 he9 HF1 N7L
      by_cases h0 : z9 = 0
      · have Y0 := hid (show y = 0 by rw [YZ.out]; exact h0)
        have S8 : (st2).2 = 0 := by
          by_cases hb : (st2).2 = 0
          · exact hb
          · have e1 := rawE_stay hb
            rw [N8.out] at e1
            injection e1 with _ e1
            rw [HZ9.out, e1] at h0
            unfold endOf at h0
            rw [if_neg hb] at h0
            exact absurd h0 hb
        have RR := hid (show r = ⟨x1, x2, x3, x4, x5, x6, l, x8⟩ by rw [HR.out, ← HST.out, GS.out, LG.out S8])
        have f0 : (z9 != 0) = false := by simpa using h0
        clear h0 S8
        obtain ⟨q1, q2⟩ := setRow_keepsN (cs := (Rp.cells ⟨x1, x2, x3, x4, x5, x6, l, x8⟩ (.slice a (l).length cp) (.slice a8 x8.length c8)).toArray) Dy.out
        have Q1 := hid q1
        have Q2 := hid q2
        clear q1 q2
        have RT := hid (range_ofN (cs := (Rp.cells ⟨x1, x2, x3, x4, x5, x6, l, x8⟩ (.slice a (l).length cp) (.slice a8 x8.length c8))) Jy.out rfl)
        go_wp2_with (first | (refine wpList_is rfl _ _ (exec_load _ _ _ _ rfl rfl (loadRp 25 urRep srRep _ n2 ⟨x1, x2, x3, x4, x5, x6, l, x8⟩ _ _ RT.out)) ?_) | (refine wpList_noval rfl _ (exec_storeWhole 25 _ _ rfl n0 (rpZ.cells (.slice none 0 0) (.slice none 0 0)).toArray (Rp.cells ⟨x1, x2, x3, x4, x5, x6, l, x8⟩ (.slice a (l).length cp) (.slice a8 x8.length c8)) Dy.out rfl rfl rfl (by kernel_rfl) (one_rp _ _ _ _ _ _ _)) ?_) | fail)
        refine bodyPost_ret (mix_ret (cs := (Rp.cells ⟨x1, x2, x3, x4, x5, x6, l, x8⟩ (.slice a (l).length cp) (.slice a8 x8.length c8))) (z := .int .i64 0) rfl urRep (by kernel_rfl) rfl rfl (range_ofN Q1.out rfl)) rfl ?_
        rw [RR.out]
        refine ⟨Ky.out.trans' Q2.out (S := []) (fun b hb hm => by simp at hm; have := NN.out; omega), Or.inl ⟨Y0.out, .slice a (l).length cp, a8, c8, rfl, ?_, ?_⟩⟩
        · exact (OX.out.keep Q2.out (fun b hb => by simp at hb; have := HU.out; have := NN.out; omega)).at cEnt
        · refine OR9.out.keep Q2.out ?_
          intro ad n c e hne hm
          injection e with e _ _
          have := ON8.out ad e
          simp at hm
          have := NN.out
          omega
      · have H0 := hid h0
        have f0 : (z9 != 0) = true := by simpa using h0
        clear h0
        obtain ⟨q1, q2⟩ := setRow_keepsN (cs := (rpZ.cells (.slice none 0 0) (.slice none 0 0)).toArray) Dy.out
        have Q1 := hid q1
        have Q2 := hid q2
        clear q1 q2
        go_wp2_with (first | (refine wpList_noval rfl _ (exec_storeWhole 25 _ _ rfl n0 (rpZ.cells (.slice none 0 0) (.slice none 0 0)).toArray (rpZ.cells (.slice none 0 0) (.slice none 0 0)) Dy.out rfl rfl rfl (by kernel_rfl) (one_rp _ _ _ _ _ _ _)) ?_) | fail)
        refine bodyPost_ret (mix_ret (cs := rpZ.cells (.slice none 0 0) (.slice none 0 0)) (z := .int .i64 z9) rfl urRep (by kernel_rfl) rfl rfl (range_ofN Q1.out rfl)) rfl ?_
        exact ⟨Ky.out.trans' Q2.out (S := []) (fun b hb hm => by simp at hm; have := NN.out; omega), Or.inr ⟨by rw [YZ.out]; exact H0.out, by rw [YZ.out]; rfl⟩⟩
end Go.Proofs.YtoglcohdanpciaaGreat
