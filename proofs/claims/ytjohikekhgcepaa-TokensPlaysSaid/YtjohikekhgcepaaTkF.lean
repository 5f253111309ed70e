/- tokens: slices.Clone, Grow, Concat of rows; Busy, Rows. -/
import Derived.Test.YtjohikekhgcepaaTkE
import Derived.Lib.AppendZerosOnto
import Derived.Lib.SliceRun
namespace Go.Proofs.Ytjohikekhgcepaa
open Go.RowKit Go.Shelf
set_option maxRecDepth 100000
set_option linter.unusedSimpArgs false

/-- Rows of none in new memory. -/
theorem exec_noRk {T TS : TypeId} (R : RT T TS) {ρ : Operand → Value} {o : Oper} {w : World} (ho : o.op = .buildSlice TS 0 #[]) :
    (execOp ρ o).run Try.prog w = .ok (.value (.slice (some ⟨w.heap.size, 0, none⟩) 0 0)) (w.alloc (.cells #[] T)) := by
  obtain ⟨ie, hie, hz, hs, _⟩ := info_parts R.info
  have h : (Instr.buildSlice TS 0 #[]).run Try.prog w = .ok (.slice (some ⟨w.heap.size, 0, none⟩) 0 0) (w.alloc (.cells #[] T)) := by
    have e0 : Array.range 0 = #[] := rfl
    simp [Instr.buildSlice, run_underlying R.und, sizeOf, typeInfo, hie, Instr.fill, newRow, Result.andThen, e0]
  simp only [execOp, ho, List.map_toArray, List.map_nil, Sem.run_bind, h, Result.andThen_ok, Sem.run_pure]
/-- One row in new memory. -/
theorem exec_oneRk {T TS : TypeId} (R : RT T TS) {ρ : Operand → Value} {o : Oper} {w : World} (x : Operand) (t : Rk) (ho : o.op = .buildSlice TS 1 #[(0, x)]) (hx : ρ x = rkV t) :
    (execOp ρ o).run Try.prog w = .ok (.value (.slice (some ⟨w.heap.size, 0, none⟩) 1 1)) (w.alloc (.cells t.cells.toArray T)) := by
  obtain ⟨ie, hie, hz, hs, _⟩ := info_parts R.info
  have h : (Instr.buildSlice TS 1 #[(0, rkV t)]).run Try.prog w = .ok (.slice (some ⟨w.heap.size, 0, none⟩) 1 1) (w.alloc (.cells t.cells.toArray T)) := by
    refine run_buildSlice w _ _ 1 _ _ ie _ R.und hie hz (by rw [hs]; decide) (by rw [hs]; decide) ?_
    rw [hs]
    have e : (Array.range (1 * 4)) = #[0, 1, 2, 3] := rfl
    have e2 : (rkV rZ).cells = rZ.cells.toArray := rfl
    have e3 : (rkV t).cells = t.cells.toArray := rfl
    simp only [Instr.fill, e, e2, e3]
    simp [Rk.cells]
  simp only [execOp, ho, List.map_toArray, List.map_cons, List.map_nil, hx, Sem.run_bind, h, Result.andThen_ok, Sem.run_pure]
theorem own_noneK (T : TypeId) (M : List Nat) (w : World) (hM : ∀ b ∈ M, b < w.heap.size) : OwnK (w.alloc (.cells #[] T)) w.heap.size T M (.slice (some ⟨w.heap.size, 0, none⟩) 0 0) [] :=
  ⟨⟨by simp [rkcells], .inr ⟨w.heap.size, 0, #[], rfl, Nat.le_refl _, heap_alloc_new _ _, by simp, by simp, by simp, by simp [rkcells]⟩⟩, hM⟩
def RowPostK (w : World) (M : List Nat) (ms : List Rk) (e : Ending) (w' : World) : Prop :=
  ∃ a c, e = .returned (.slice a ms.length c) ∧ OwnK w' w.heap.size 59 M (.slice a ms.length c) ms ∧ Keeps [] w w'
theorem OwnK.wide {T : TypeId} {w : World} {B : Nat} {v : Value} {ms : List Rk} (h : OwnK w B T [] v ms) (M : List Nat) (hM : ∀ k ∈ M, k < B) : OwnK w B T M v ms := ⟨h.row, hM⟩

set_option maxHeartbeats 1600000 in
theorem slClone_any (w : World) (M N : List Nat) (hM : ∀ k ∈ M, k < w.heap.size) (a : Option Addr) (n c : Nat) (ms : List Rk) (h : RksAt w N (.slice a n c) ms) (hl : ms.length ≤ 1000) :
    Calls Try.prog 80 #[.slice a n c] w (RowPostK w M ms) := by
  obtain ⟨a', c', hv, h1, h2, h3, h4⟩ := id h
  injection hv with e1 e2 e3
  subst e1; subst e2; subst e3
  have HH := hid h
  have HM := hid hM
  cases a with
  | none =>
    obtain rfl := h3 rfl
    obtain rfl : ms = [] := List.eq_nil_of_length_eq_zero (by omega)
    clear h h4 h3 hM
    simp only [List.length_nil]
    have hcmp := fun (W : World) => Lib.run_eql_slice_nil (P := Try.prog) W 67 59 none 0 0 0 0 Try.underlying67
    go_enter Try.func80, Try.ntmps80
    go_wp2_with fail
    go_ret
    exact ⟨none, 0, rfl, OwnK.nil _ _ _ _ HM.out, Keeps.refl _ _⟩
  | some ad =>
    have k1 := (Keeps.refl [] w).alloc (.cells #[] 59)
    have o1 := own_noneK 59 M w hM
    obtain ⟨a2, c2, w2, hr, ho, hk, hn⟩ := append_rks cRk o1 (some ad) ms.length c (h.later k1) (by simp only [List.length_nil]; omega) k1.size 67
    simp only [List.length_nil, Nat.zero_add, List.nil_append] at hr ho
    have HR := hid hr
    have HO := hid ho
    have HK : Hid (Keeps [] w w2) := hid (k1.trans' hk (fun i hi hm => by
      have := o1.blk i (by simpa using hm)
      omega))
    clear h h4 h3 hM k1 o1 hr ho hk hn
    have hcmp := fun (W : World) => Lib.run_eql_slice_nil (P := Try.prog) W 67 59 (some ad) ms.length c 0 0 Try.underlying67
    go_enter Try.func80, Try.ntmps80
    go_wp2_with (first | (refine wpList_is rfl _ _ (exec_noRk cRk rfl) ?_) | (at_builtin; refine wpList_is rfl _ _ (exec_appendT 67 _ _ rfl rfl rfl HR.out) ?_) | fail)
    go_ret
    exact ⟨a2, c2, rfl, HO.out, HK.out⟩

theorem exec_append2K {P : Program} {ρ : Operand → Value} {o : Oper} {w w' : World} {v u z : Value} (t t2 : TypeId) (x y : Operand) (ho : o.op = .call { callee := .builtin .append, args := #[x, y], argTypes := #[t, t2] }) (hx : ρ x = u) (hy : ρ y = z) (h : (Builtin.append_ #[t, t2] o.type #[u, z]).run P w = .ok v w') : (execOp ρ o).run P w = .ok (.value v) w' := by
  simp [execOp, ho, resolve, invoke, builtin, hx, hy, h, Result.andThen]
theorem info_intK : Try.prog.underlying 3 = some (.int .i64) := by kernel_rfl
set_option maxHeartbeats 1600000 in
theorem grow_any (w : World) (n : Nat) (hn : n ≤ 2000) : Calls Try.prog 186 #[.slice none 0 0, .int .i64 n] w (RowPostK w [] []) := by
  have inf : (Try.prog.info? 59).map (fun i => (i.zero, i.size, i.bytes)) = some (some (.agg #[.int .i64 0, .int .i64 0, .int .i64 0, .bool false]), 4, 32) := cRk.info
  obtain ⟨i3, hi3, hz3, hz33, hz340⟩ := info_parts inf
  by_cases h0 : n = 0
  · subst h0
    go_enter Try.func186, Try.ntmps186
    go_wp2_with fail
    go_ret
    exact ⟨none, 0, rfl, OwnK.nil _ _ _ _ (by simp), Keeps.refl _ _⟩
  · have hrz := fun ty => Lib.run_append_grow_zeros (P := Try.prog) w 67 3 ty 59 i3 _ .i64 .i64 Try.underlying67 info_intK hi3 hz3 none 0 0 [] (run_firstCells_none w.drew i3.size 0 0 0) n (by omega) (by omega) (by omega) (by omega) (by rw [hz340]; omega) (by rw [Nat.zero_add]; exact growslice_fits (by omega) (by rw [hz340]; omega))
    have HRZ := hid hrz
    have hge := grownCap_ge w n 0 59
    have hle := grownCap_le_maxLen w n 0 59 (by unfold maxLen; omega)
    clear hrz
    simp only [Nat.zero_add] at HRZ
    generalize grownCap w n 0 59 = G at hge hle HRZ
    have HGE := hid hge
    have HLE := hid hle
    clear hge hle
    go_enter Try.func186, Try.ntmps186
    have HS := hid (rks_hi (some ⟨w.heap.size, 0, none⟩) n G 0 (by omega))
    have HS2 := hid (rks_hi none 0 0 0 (by omega))
    go_wp2_with (first | (at_builtin; refine wpList_is rfl _ _ (exec_append2K _ _ _ _ rfl rfl rfl (HRZ.out _)) ?_) | (refine wpList_is rfl _ _ (exec_sliceR 67 _ _ _ _ rfl (HS.out _)) ?_) | (refine wpList_is rfl _ _ (exec_sliceR 67 _ _ _ _ rfl (HS2.out _)) ?_) | fail)
    go_ret
    refine ⟨_, _, rfl, ⟨⟨by simp [rkcells], .inr ⟨w.heap.size, G, _, rfl, Nat.le_refl _, heap_alloc_new w.drew _, by simp, HLE.out, ?_, by simp [rkcells]⟩⟩, by simp⟩, (Keeps.refl [] w).drew.alloc _⟩
    have := HGE.out
    simp only [Array.size_append, List.size_toArray, size_zeroCells]
    simp only [List.length_cons, List.length_nil]
    omega

set_option maxHeartbeats 3200000 in
theorem concat_any (w : World) (M N : List Nat) (hM : ∀ k ∈ M, k < w.heap.size) (rb : Nat) (a1 a2 a3 : Option Addr) (c1 c2 c3 : Nat) (es1 es2 es3 : List Rk) (hb : w.heap[rb]? = some (.cells #[.slice a1 es1.length c1, .slice a2 es2.length c2, .slice a3 es3.length c3] 67 (0, 0)))
    (h1 : RksAt w N (.slice a1 es1.length c1) es1) (h2 : RksAt w N (.slice a2 es2.length c2) es2) (h3 : RksAt w N (.slice a3 es3.length c3) es3) (l1 : es1.length + es2.length + es3.length ≤ 2000) :
    Calls Try.prog 135 #[.slice (some ⟨rb, 0, none⟩) 3 3] w (RowPostK w M (es1 ++ es2 ++ es3)) := by
  have H1 := hid h1
  have H2 := hid h2
  have H3 := hid h3
  have HB := hid hb
  have HM := hid hM
  have d0 : w.cell? ⟨rb, 0, none⟩ = some (.slice a1 es1.length c1) := by simp [World.cell?, hb]
  have d1 : w.cell? ⟨rb, 1, none⟩ = some (.slice a2 es2.length c2) := by simp [World.cell?, hb]
  have d2 : w.cell? ⟨rb, 2, none⟩ = some (.slice a3 es3.length c3) := by simp [World.cell?, hb]
  obtain ⟨n1, hn1⟩ : ∃ n, n = es1.length := ⟨_, rfl⟩
  obtain ⟨n2, hn2⟩ : ∃ n, n = es2.length := ⟨_, rfl⟩
  obtain ⟨n3, hn3⟩ : ∃ n, n = es3.length := ⟨_, rfl⟩
  have N1 := hid hn1
  have N2 := hid hn2
  have N3 := hid hn3
  rw [← hn1] at d0 H1 HB l1
  rw [← hn2] at d1 H2 HB l1
  rw [← hn3] at d2 H3 HB l1
  clear h1 h2 h3 hb hM hn1 hn2 hn3
  go_enter Try.func135, Try.ntmps135
  go_wp2_with fail
  go_loop [3, 11] (fun s i => (i = .int .i64 0 ∧ s = .int .i64 0) ∨ (i = .int .i64 1 ∧ s = .int .i64 n1) ∨ (i = .int .i64 2 ∧ s = .int .i64 ((n1 + n2 : Nat) : Int)) ∨ (i = .int .i64 3 ∧ s = .int .i64 ((n1 + n2 + n3 : Nat) : Int))) (fun _ i => 3 - (intOf i).toNat)
  case atStart => exact Or.inl ⟨rfl, rfl⟩
  case round =>
    rcases hrel with ⟨rfl, rfl⟩ | ⟨rfl, rfl⟩ | ⟨rfl, rfl⟩ | ⟨rfl, rfl⟩
    · go_wp2_with fail
      go_round
      case rel => exact Or.inr (Or.inl ⟨rfl, by go_num⟩)
      case measure => simp [intOf]
    · go_wp2_with fail
      go_round
      case rel => exact Or.inr (Or.inr (Or.inl ⟨rfl, by go_num⟩))
      case measure => simp [intOf]
    · go_wp2_with fail
      go_round
      case rel => exact Or.inr (Or.inr (Or.inr ⟨rfl, by go_num⟩))
      case measure => simp [intOf]
    · go_wp2_with fail
      refine (grow_any w (n1 + n2 + n3) (by omega)).mono ?_
      rintro e w1 ⟨a, c, rfl, o, k⟩
      have K1 := hid k
      have O1 := hid (o.wide M HM.out)
      clear o k d0 d1 d2
      go_wp2_with fail
      go_loopw [6, 27] (fun v i wr => Keeps [] w wr ∧ ((i = .int .i64 0 ∧ ∃ a c, v = .slice a 0 c ∧ OwnK wr w.heap.size 59 M (.slice a 0 c) []) ∨ (i = .int .i64 1 ∧ ∃ a c, v = .slice a n1 c ∧ OwnK wr w.heap.size 59 M (.slice a n1 c) es1) ∨ (i = .int .i64 2 ∧ ∃ a c, v = .slice a (n1 + n2) c ∧ OwnK wr w.heap.size 59 M (.slice a (n1 + n2) c) (es1 ++ es2)) ∨ (i = .int .i64 3 ∧ ∃ a c, v = .slice a (n1 + n2 + n3) c ∧ OwnK wr w.heap.size 59 M (.slice a (n1 + n2 + n3) c) (es1 ++ es2 ++ es3)))) (fun _ i _ => 3 - (intOf i).toNat)
      case atStart => exact ⟨K1.out, Or.inl ⟨rfl, _, _, rfl, O1.out⟩⟩
      case round =>
        obtain ⟨kk, hrel⟩ := hrel
        have KK := hid kk
        have BB := hid ((kk.block _ (lt_of_block HB.out) (by simp)).trans HB.out)
        have d0 : wr.cell? ⟨rb, 0, none⟩ = some (.slice a1 n1 c1) := by simp [World.cell?, BB.out]
        have d1 : wr.cell? ⟨rb, 1, none⟩ = some (.slice a2 n2 c2) := by simp [World.cell?, BB.out]
        have d2 : wr.cell? ⟨rb, 2, none⟩ = some (.slice a3 n3 c3) := by simp [World.cell?, BB.out]
        clear kk
        rcases hrel with ⟨rfl, a, c, rfl, o⟩ | ⟨rfl, a, c, rfl, o⟩ | ⟨rfl, a, c, rfl, o⟩ | ⟨rfl, a, c, rfl, o⟩
        · obtain ⟨a', c', w', hr, ho, hk, hn⟩ := append_rks cRk o a1 n1 c1 (H1.out.later KK.out) (by have := N1.out; simp only [List.length_nil]; omega) KK.out.size 67
          simp only [List.length_nil, Nat.zero_add, List.nil_append] at hr ho
          have HR := hid hr
          have HO := hid ho
          have HK : Hid (Keeps [] w w') := hid (KK.out.trans' hk (fun i hi hm => by
            have := o.blk i (by simpa using hm)
            omega))
          clear o hr ho hk hn
          go_wp2_with (at_builtin; refine wpList_is rfl _ _ (exec_appendT 67 _ _ rfl rfl rfl HR.out) ?_)
          go_roundw
          case rel => exact ⟨HK.out, Or.inr (Or.inl ⟨rfl, _, _, rfl, HO.out⟩)⟩
          case measure => simp [intOf]
        · obtain ⟨a', c', w', hr, ho, hk, hn⟩ := append_rks cRk o a2 n2 c2 (H2.out.later KK.out) (by have := N1.out; have := N2.out; omega) KK.out.size 67
          rw [← N1.out] at hr ho
          have HR := hid hr
          have HO := hid ho
          have HK : Hid (Keeps [] w w') := hid (KK.out.trans' hk (fun i hi hm => by
            have := o.blk i (by simpa using hm)
            omega))
          clear o hr ho hk hn
          go_wp2_with (at_builtin; refine wpList_is rfl _ _ (exec_appendT 67 _ _ rfl rfl rfl HR.out) ?_)
          go_roundw
          case rel => exact ⟨HK.out, Or.inr (Or.inr (Or.inl ⟨rfl, _, _, rfl, HO.out⟩))⟩
          case measure => simp [intOf]
        · obtain ⟨a', c', w', hr, ho, hk, hn⟩ := append_rks cRk o a3 n3 c3 (H3.out.later KK.out) (by have := N1.out; have := N2.out; have := N3.out; simp only [List.length_append]; omega) KK.out.size 67
          rw [List.length_append, ← N1.out, ← N2.out] at hr ho
          have HR := hid hr
          have HO := hid ho
          have HK : Hid (Keeps [] w w') := hid (KK.out.trans' hk (fun i hi hm => by
            have := o.blk i (by simpa using hm)
            omega))
          clear o hr ho hk hn
          go_wp2_with (at_builtin; refine wpList_is rfl _ _ (exec_appendT 67 _ _ rfl rfl rfl HR.out) ?_)
          go_roundw
          case rel => exact ⟨HK.out, Or.inr (Or.inr (Or.inr ⟨rfl, _, _, rfl, HO.out⟩))⟩
          case measure => simp [intOf]
        · have HO := hid o
          clear o
          go_wp2_with fail
          go_ret
          have hl : (es1 ++ es2 ++ es3).length = n1 + n2 + n3 := by rw [List.length_append, List.length_append, N1.out, N2.out, N3.out]
          exact ⟨a, c, by rw [hl]; rfl, by rw [hl]; exact HO.out, KK.out⟩
end Go.Proofs.Ytjohikekhgcepaa
