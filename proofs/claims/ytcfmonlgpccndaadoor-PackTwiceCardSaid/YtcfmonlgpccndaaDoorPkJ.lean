/- pack: the laws' awake. -/
import Derived.Test.YtcfmonlgpccndaaDoorPkI
import Derived.Test.YtcfmonlgpccndaaDoorPkG19
import Derived.Test.YtcfmonlgpccndaaDoorPkG05
namespace Go.Proofs.YtcfmonlgpccndaaDoor
open Go.RowKit Go.Shelf
set_option maxRecDepth 100000
set_option linter.unusedSimpArgs false
set_option linter.unusedVariables false

theorem row_alloc14 (w : World) (zs : List Int) (hb : ∀ z ∈ zs, 0 ≤ z ∧ z ≤ 255) (hl : zs.length ≤ 1000) : RowAt (w.alloc (.cells (zs.map (Value.int .u8)).toArray 5)) (.slice (some ⟨w.heap.size, 0, none⟩) zs.length zs.length) zs :=
  ⟨_, _, rfl, Nat.le_refl _, by unfold maxLen; omega, by simp, hb, fun ad had j u hu => by
    obtain rfl := Option.some.inj had
    rw [Addr.add_lit, Nat.zero_add, cell_of_row _ _ j _ _ (0, 0) (heap_alloc_new w _), ← Array.getElem?_toList]
    exact hu⟩
theorem buildDt (b : Int) (a : Option Addr) (n c : Nat) (w : World) : (Instr.build 33 #[(0, .int .i64 b), (1, .slice a n c)]).run Tryd.prog w = .ok (.agg #[.int .i64 b, .slice a n c]) w := by kernel_rfl
theorem buildDt1 (b : Int) (w : World) : (Instr.build 33 #[(0, .int .i64 b)]).run Tryd.prog w = .ok (.agg #[.int .i64 b, .slice none 0 0]) w := by kernel_rfl
theorem exec_buildDt {ρ : Operand → Value} {o : Oper} {w : World} (x0 x1 : Operand) (ho : o.op = .build 33 #[(0, x0), (1, x1)]) (b : Int) (a : Option Addr) (n c : Nat) (h0 : ρ x0 = .int .i64 b) (h1 : ρ x1 = .slice a n c) :
    (execOp ρ o).run Tryd.prog w = .ok (.value (.agg #[.int .i64 b, .slice a n c])) w := by
  simp only [execOp, ho, List.map_toArray, List.map_cons, List.map_nil, h0, h1, Sem.run_bind, buildDt, Result.andThen_ok, Sem.run_pure]
theorem exec_buildDt1 {ρ : Operand → Value} {o : Oper} {w : World} (x0 : Operand) (ho : o.op = .build 33 #[(0, x0)]) (b : Int) (h0 : ρ x0 = .int .i64 b) :
    (execOp ρ o).run Tryd.prog w = .ok (.value (.agg #[.int .i64 b, .slice none 0 0])) w := by
  simp only [execOp, ho, List.map_toArray, List.map_cons, List.map_nil, h0, Sem.run_bind, buildDt1, Result.andThen_ok, Sem.run_pure]
theorem exec_oneDt {ρ : Operand → Value} {o : Oper} {w : World} (x : Operand) (b : Int) (a : Option Addr) (n c : Nat) (ho : o.op = .buildSlice 34 1 #[(0, x)]) (hx : ρ x = .agg #[.int .i64 b, .slice a n c]) :
    (execOp ρ o).run Tryd.prog w = .ok (.value (.slice (some ⟨w.heap.size, 0, none⟩) 1 1)) (w.alloc (.cells #[.int .i64 b, .slice a n c] 33)) := by
  obtain ⟨ie, hie, hz, hs, _⟩ := info_parts iDirty3
  have h : (Instr.buildSlice 34 1 #[(0, .agg #[.int .i64 b, .slice a n c])]).run Tryd.prog w = .ok (.slice (some ⟨w.heap.size, 0, none⟩) 1 1) (w.alloc (.cells #[.int .i64 b, .slice a n c] 33)) := by
    refine run_buildSlice w _ _ 1 _ _ ie _ Tryd.underlying34 hie hz (by rw [hs]; decide) (by rw [hs]; decide) ?_
    rw [hs]
    have e : (Array.range (1 * 2)) = #[0, 1] := rfl
    have e2 : (Value.agg dzA).cells = dzA := rfl
    have e3 : (Value.agg #[Value.int .i64 b, .slice a n c]).cells = #[Value.int .i64 b, .slice a n c] := rfl
    simp only [Instr.fill, e, e2, e3, dzA]
    simp
  simp only [execOp, ho, List.map_toArray, List.map_cons, List.map_nil, hx, Sem.run_bind, h, Result.andThen_ok, Sem.run_pure]
theorem one_dt (w : World) (b : Int) (a : Option Addr) (n c : Nat) (d : List Int) (hr : RowAt w (.slice a n c) d) (hl : d.length ≤ 140737488351232) : DsAt (w.alloc (.cells #[.int .i64 b, .slice a n c] 33)) (.slice (some ⟨w.heap.size, 0, none⟩) 1 1) [⟨b, .slice a n c, d⟩] :=
  ⟨_, 1, rfl, by simp, by decide, by simp, fun _ => ⟨w.heap.size, 0, rfl, by simp, fun i hi => by
    simp at hi
    subst hi
    exact ⟨range_new w (⟨b, .slice a n c, d⟩ : Dr).cells 33, hr.keep ((Keeps.refl [] w).alloc _) (by intro _ _ _ _ _; simp), hl⟩⟩⟩
theorem aw14_pack : packL 2 3 (speM 1) 3 [⟨0, [97, 98, 0]⟩] = ([⟨⟨1, 0, 0⟩, [97, 98]⟩], [⟨1, 2, 0, 3, ⟨1, 0, 0, 0, 2⟩, pZ⟩, cutD 2 3], 0) := by kernel_rfl
theorem F4At.data {w : World} {g off : Nat} {x : Fl} (h : F4At w g off x) : ∃ a c, w.cell? ⟨g, off + 3, none⟩ = some (.slice a x.d.length c) ∧ RowAt w (.slice a x.d.length c) x.d := by
  obtain ⟨a, c, h1, h2⟩ := h.cs
  exact ⟨a, c, h1 3 _ rfl, h2⟩
theorem F4At.name {w : World} {g off : Nat} {x : Fl} (h : F4At w g off x) : w.rangeAt g off x.s.cells := by
  obtain ⟨a, c, h1, h2⟩ := h.cs
  intro j u hu
  refine h1 j u ?_
  rcases j with _ | _ | _ | j <;> simp [Spe.cells, Fr.cells] at hu ⊢ <;> exact hu
set_option maxHeartbeats 12800000 in
theorem pAwake_any (w : World) : Calls Tryd.prog 8 #[] w fun e w' => e = .returned (.bool true) ∧ Keeps [] w w' := by
  have A1 := hid (yStripe_any w 1 (by decide))
  go_enter Tryd.func8, Tryd.ntmps8
  go_wp2_with fail
  refine A1.out.mono ?_
  rintro e w1 ⟨rfl, k1⟩
  unfold speV
  obtain ⟨w3, hw3⟩ : ∃ x, x = (w1.alloc (.cells #[.int .u8 97, .int .u8 98, .int .u8 0] 5)).alloc (.cells #[.int .i64 0, .slice (some ⟨w1.heap.size, 0, none⟩) 3 3] 33) := ⟨_, rfl⟩
  have r2 : RowAt (w1.alloc (.cells #[.int .u8 97, .int .u8 98, .int .u8 0] 5)) (.slice (some ⟨w1.heap.size, 0, none⟩) 3 3) [97, 98, 0] := row_alloc14 w1 [97, 98, 0] (by decide) (by decide)
  have d3 := one_dt _ 0 _ 3 3 _ r2 (by decide)
  rw [← hw3, World.size_alloc] at d3
  have k3 : Keeps [] w w3 := by rw [hw3]; exact (k1.alloc _).alloc _
  have HP0 := pPack_any w3 2 3 (speM 1) 3 _ _ d3
  have e3 : dbs [⟨0, .slice (some ⟨w1.heap.size, 0, none⟩) 3 3, [97, 98, 0]⟩] = [⟨0, [97, 98, 0]⟩] := rfl
  rw [e3, aw14_pack] at HP0
  have HP := hid HP0
  have HW3 := hid hw3
  have K3 := hid k3
  clear hw3 r2 d3 k3 HP0 e3 k1
  go_wp2_with fail
  rw [← HW3.out]
  refine HP.out.mono ?_
  rintro e w4 ⟨va, vd, rfl, f4, d4, k4⟩
  simp only at f4 d4
  obtain ⟨aa, ca, rfl⟩ := f4.shape
  obtain ⟨ad, cd, rfl⟩ := d4.shape
  obtain ⟨ga, oa, rfl, ha, F0⟩ := f4.at 0 (by decide)
  obtain ⟨gd, od, rfl, hd, D0⟩ := d4.at 0 (by decide)
  obtain ⟨_, _, e, _, D1⟩ := d4.at 1 (by decide)
  injection e with e
  injection e with e1 e2
  subst e1; subst e2
  obtain ⟨ar, cr, c3, r4⟩ := F0.data
  simp only [List.getElem_cons_zero, Nat.zero_mul, Nat.add_zero, List.length_cons, List.length_nil, Nat.zero_add] at c3 r4
  have c8 : w4.cell? ⟨gd, od + 4 + 4, none⟩ = some (.int .i64 2) := D0 8 _ rfl
  have c14 : w4.cell? ⟨gd, od + 14, none⟩ = some (.int .i64 2) := D1 0 _ rfl
  have q3 : ∀ W, Keeps [] w4 W → W.cell? ⟨ga, oa + 3, none⟩ = some (.slice ar 2 cr) := fun W h => h.cell' c3 (by simp)
  have K4 := hid (K3.out.trans k4)
  have R4 := hid r4
  simp only [List.length_cons, List.length_nil, Nat.zero_add] at *
  have SA := hid (same_any (w4.alloc (.cells #[.int .u8 97, .int .u8 98] 5)) _ _ [97, 98] [97, 98] (r4.keep ((Keeps.refl [] w4).alloc _) (by intro _ _ _ _ _; simp)) (row_alloc14 w4 [97, 98] (by decide) (by decide)) (by decide) (by decide))
  have k6 : Keeps [] w4 (w4.alloc (.cells #[.int .u8 97, .int .u8 98] 5)) := (Keeps.refl [] w4).alloc _
  have q8 : ∀ j, ((w4.alloc (.cells #[.int .u8 97, .int .u8 98] 5)).drewN j).cell? ⟨gd, od + 4 + 4, none⟩ = some (.int .i64 2) := fun j => (k6.drewN j).cell' c8 (by simp)
  have q14 : ∀ j, ((w4.alloc (.cells #[.int .u8 97, .int .u8 98] 5)).drewN j).cell? ⟨gd, od + 14, none⟩ = some (.int .i64 2) := fun j => (k6.drewN j).cell' c14 (by simp)
  have K6 := hid (K4.out.trans k6)
  clear f4 d4 F0 D0 D1 k4 k6 q3
  go_wp2_with fail
  refine SA.out.mono ?_
  rintro e w5 ⟨rfl, nn, rfl⟩
  go_wp2_with fail
  go_ret
  exact ⟨rfl, K6.out.drewN nn⟩
end Go.Proofs.YtcfmonlgpccndaaDoor
