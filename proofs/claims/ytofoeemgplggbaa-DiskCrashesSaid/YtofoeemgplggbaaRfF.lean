/- The reference's disk: NewDisk. -/
import Derived.Test.YtofoeemgplggbaaRfE
namespace Go.Proofs.Ytofoeemgplggbaa
open Go.RowKit

/-- A disk that is being made: k rows of noughts in Now, m in Lasts. -/
def Rk (k m : Nat) : RSt := ⟨fun i => if i = 0 then List.replicate k zrow.1 else if i = 1 then List.replicate m zrow.1 else [], [], 0, -1, false⟩

theorem Rk_new (c : Nat) : (blankS c).ref = Rk c c := by
  unfold DS.ref Rk
  congr 1
  funext i
  simp only [rsOf, blankS]
  by_cases h0 : i = 0
  · subst h0; simp [List.map_const']
  · by_cases h1 : i = 1
    · subst h1; simp [List.map_const']
    · simp [h0, h1]

theorem RefIn.start (w : World) : RefIn (w.alloc (.cells #[.slice none 0 0, .slice none 0 0, .slice none 0 0, .slice none 0 0, .int .i64 0, .int .i64 (-1), .bool false] 42)) w.heap.size (Rk 0 0) (fun _ => .slice none 0 0) (fun _ => []) :=
  ⟨heap_alloc_new w _, fun i hi h2 => ⟨World.ownsRow_nil _ _ _ _, by simp only [Rk]; split <;> simp, fun i hi => by simp at hi⟩, World.ownsRow_nil _ _ _ _, rfl, fun _ _ _ _ _ b e => (by cases e), fun _ _ e => (by cases e), fun _ _ b hb => (by simp at hb), fun _ _ b hb => (by simp at hb)⟩

def noughts : Array Value := Array.replicate 64 (.int .u8 0)
theorem row_noughts (w : World) : RowAt (w.alloc (.cells noughts 5)) (.slice (some ⟨w.heap.size, 0, none⟩) 64 64) zrow.1 := by
  have hz : zrow.1 = List.replicate 64 0 := by kernel_rfl
  rw [hz]
  refine ⟨some ⟨w.heap.size, 0, none⟩, 64, by simp, by simp, by unfold maxLen; omega, by simp, fun z hz => ?_, fun ad had j u hu => ?_⟩
  · have := (List.mem_replicate.1 hz).2; omega
  · obtain rfl := Option.some.inj had
    rw [Addr.add_mid, Nat.zero_add, cell_of_row _ _ j _ _ (0, 0) (heap_alloc_new w _)]
    rw [List.map_replicate] at hu
    rw [noughts, ← Array.getElem?_toList, Array.toList_replicate]
    exact hu

theorem run_noughts (w : World) : (Instr.makeSlice 34 (.int .i64 64) (.int .i64 64)).run Try.prog w = .ok (.slice (some ⟨w.heap.size, 0, none⟩) 64 64) (w.alloc (.cells noughts 5)) := by
  obtain ⟨i5, hi5, hz5, hs5, hb5⟩ := info_parts info5
  have := run_makeSlice (P := Try.prog) w 34 5 i5 _ Try.underlying34 hi5 hz5 .i64 .i64 64 64 (by omega) (by omega) (by rw [hs5]; omega) (by rw [hb5]; omega) (by omega)
  rw [this, hs5]
  have e : madeCells (Value.int .u8 0).cells 64 = noughts := by
    apply Array.ext'
    exact (toList_madeCells_one (Value.int .u8 0) 64).trans (by simp [noughts])
  rw [← e]
  rfl

theorem exec_noughts {ρ : Operand → Value} {o : Oper} {w : World} (x y : Operand) (ho : o.op = .makeSlice 34 x y) (hx : ρ x = .int .i64 64) (hy : ρ y = .int .i64 64) :
    (execOp ρ o).run Try.prog w = .ok (.value (.slice (some ⟨w.heap.size, 0, none⟩) 64 64)) (w.alloc (.cells noughts 5)) := by
  simp only [execOp, ho, hx, hy, Sem.run_bind, run_noughts, Result.andThen_ok, Sem.run_pure]

set_option maxRecDepth 100000 in
set_option maxHeartbeats 4000000 in
theorem rnew_any (c : Nat) (h2 : 2 ≤ c) (hc : c ≤ 4160) (w : World) :
    Calls Try.prog 8 #[.int .i64 c] w fun e w' => ∃ q vf uf, e = .returned (.tuple #[.pointer (some ⟨q, 0, none⟩), .int .i64 0]) ∧ RefIn w' q (blankS c).ref vf uf ∧ (∀ b, RB q vf uf b → w.heap.size ≤ b) ∧ Keeps [] w w' := by
  rw [Rk_new]
  have R0 := hid (RefIn.start w)
  go_enter Try.func8, Try.ntmps8
  go_wp2_with fail
  go_loopw [5] (fun v wr => ∃ (k : Nat) (vf : Nat → Value) (uf : Nat → List Value), k ≤ c ∧ v = .int .i64 k ∧ RefIn wr w.heap.size (Rk k k) vf uf ∧ (∀ b, RB w.heap.size vf uf b → w.heap.size ≤ b) ∧ Keeps [] w wr)
    (fun v _ => c - (intOf v).toNat)
  case atStart =>
    refine ⟨0, _, _, by omega, rfl, R0.out, fun b hb => ?_, (Keeps.refl _ _).alloc _⟩
    rcases hb with rfl | ⟨_, _, e | e⟩
    · exact Nat.le_refl _
    · cases e
    · simp at e
  case round =>
    obtain ⟨k, vf, uf, hk, rfl, hR, hB, hK⟩ := hrel
    have RR := hid hR
    have BB := hid hB
    have KK := hid hK
    clear hR hB hK R0
    by_cases hlt : k < c
    · have hlt' : (k : Int) < (c : Int) := by omega
      go_wp2_with fail
      have RD1 := hid (RR.out.keep (show Keeps [] wr wr.drew from ⟨rfl, rfl, rfl, Nat.le_refl _, fun _ _ _ => rfl⟩) (by simp))
      have RZ1 := hid (RD1.out.keep ((Keeps.refl [] wr.drew).alloc (.cells noughts 5)) (by simp))
      have RY1 := hid (RZ1.out.keep ((Keeps.refl [] (wr.drew.alloc (.cells noughts 5))).alloc (.cells #[(Value.slice (some ⟨wr.drew.heap.size, 0, none⟩) 64 64)] 34)) (by simp))
      have m1 := run_loadCell (P := Try.prog) wr.drew 39 ⟨w.heap.size, 0, none⟩ (vf 0) RD1.out.c0 (agg_no _ (by kernel_rfl))
      have m2 := run_loadCell (P := Try.prog) (wr.drew.alloc (.cells noughts 5)) 39 ⟨w.heap.size, 0, none⟩ (vf 0) RZ1.out.c0 (agg_no _ (by kernel_rfl))
      have m3 := run_loadCell (P := Try.prog) ((wr.drew.alloc (.cells noughts 5)).alloc (.cells #[(Value.slice (some ⟨wr.drew.heap.size, 0, none⟩) 64 64)] 34)) 39 ⟨w.heap.size, 0, none⟩ (vf 0) RY1.out.c0 (agg_no _ (by kernel_rfl))
      refine wp_region_noPanic (wp_region_any (by kernel_rfl) ?_)
      refine any_take (i := 0) (v := .pointer (some ⟨w.heap.size, 0, none⟩)) rfl (by kernel_rfl) (by kernel_rfl) (by kernel_rfl) (fun _ _ _ h => h) rfl (fun W1 => rfl) ?_
      simp only [Act.put, List.setIfInBounds_toArray, List.set_cons_zero, List.set_cons_succ]
      refine any_take (i := 1) (v := .pointer (some ⟨w.heap.size, 0, none⟩)) rfl (by kernel_rfl) (by kernel_rfl) (by kernel_rfl) (fun _ _ _ h => h) rfl (fun W1 => rfl) ?_
      simp only [Act.put, List.setIfInBounds_toArray, List.set_cons_zero, List.set_cons_succ]
      refine any_take (i := 2) (v := .pointer (some ⟨w.heap.size, 0, none⟩)) rfl (by kernel_rfl) (by kernel_rfl) (by kernel_rfl) (fun _ _ _ h => h) rfl (fun W1 => by go_simp) ?_
      simp only [Act.put, List.setIfInBounds_toArray, List.set_cons_zero, List.set_cons_succ]
      refine any_take (i := 3) (v := .pointer (some ⟨w.heap.size, 0, none⟩)) rfl (by kernel_rfl) (by kernel_rfl) (by kernel_rfl) (fun _ _ _ h => h) rfl (fun W1 => by go_simp) ?_
      simp only [Act.put, List.setIfInBounds_toArray, List.set_cons_zero, List.set_cons_succ]
      refine any_chain (i := 4) (j := 5) (k := 6) (vi := vf 0) (R1 := fun v w1 => v = (Value.slice (some ⟨wr.drew.heap.size, 0, none⟩) 64 64) ∧ w1 = (wr.drew.alloc (.cells noughts 5))) (R2 := fun v u w2 => v = (Value.slice (some ⟨wr.drew.heap.size, 0, none⟩) 64 64) ∧ u = .slice (some ⟨(wr.drew.alloc (.cells noughts 5)).heap.size, 0, none⟩) 1 1 ∧ w2 = (wr.drew.alloc (.cells noughts 5)).alloc (.cells #[(Value.slice (some ⟨wr.drew.heap.size, 0, none⟩) 64 64)] 34)) (by kernel_rfl) (by kernel_rfl) (by kernel_rfl) (by kernel_rfl) (by kernel_rfl) (by decide) (by decide) rfl rfl rfl rfl rfl rfl (by simp) (by simp)
        (exec_load _ _ _ _ rfl rfl m1) (fun v w1 h => by obtain ⟨rfl, rfl⟩ := h; exact exec_load _ _ _ _ rfl rfl m2) (fun v u w2 h => by obtain ⟨rfl, rfl, rfl⟩ := h; exact exec_load _ _ _ _ rfl rfl m3)
        (fun K hK => wp_value (exec_noughts _ _ rfl rfl rfl) (hK _ _ ⟨rfl, rfl⟩)) (fun K hK => wp_value (exec_noughts _ _ rfl rfl rfl) (hK _ _ ⟨rfl, rfl⟩))
        (fun v w1 h => by obtain ⟨rfl, rfl⟩ := h; exact ⟨_, _, exec_oneRow _ _ 64 64 rfl rfl, rfl, rfl, rfl⟩) (fun v w1 h => by obtain ⟨rfl, rfl⟩ := h; exact ⟨_, _, exec_oneRow _ _ 64 64 rfl rfl, rfl, rfl, rfl⟩) ?_
      rintro v u w2 ⟨rfl, rfl, rfl⟩
      simp only [Act.put, List.setIfInBounds_toArray, List.set_cons_zero, List.set_cons_succ]
      have hz1 : (wr.drew.alloc (.cells noughts 5)).heap.size = wr.heap.size + 1 := by simp
      have hl1 : (uf 0).length = k := by rw [(RR.out.row 0 (by omega) (by omega)).len]; simp [Rk]
      obtain ⟨va1, vc1, wf1, hrun, kf, hq, RF, hbb⟩ := RefIn.app (s' := (Rk (k + 1) k)) RZ1.out 0 (by omega) (by omega) _ 64 64 _ (row_noughts wr.drew) (fun b e => by
          have eb : wr.heap.size = b := by simpa [Value.ownBlock] using e
          subst eb
          exact ⟨fun e => by have := RR.out.lt' _ (.inl e); omega, fun j hj e => by have := RR.out.lt' _ (.inr ⟨j, hj, .inl e⟩); omega, by omega⟩)
        (by simp [Rk, List.replicate_succ']) (fun i h1 h2 h3 => by simp [Rk, h2]) rfl ⟨rfl, rfl, rfl⟩ (by omega)
      rw [hl1] at hrun RF hbb
      refine any_do (i := 7) (by kernel_rfl) rfl rfl (wp_value (exec_appendT _ _ _ rfl rfl rfl hrun) ?_)
      simp only [Act.put, List.setIfInBounds_toArray, List.set_cons_zero, List.set_cons_succ]
      refine any_take (i := 8) (v := .pointer (some ⟨w.heap.size, 0, none⟩)) rfl (by kernel_rfl) (by kernel_rfl) (by kernel_rfl) (fun _ _ _ h => h) rfl (fun W1 => by go_simp) ?_
      simp only [Act.put, List.setIfInBounds_toArray, List.set_cons_zero, List.set_cons_succ]
      refine any_take (i := 9) (v := .pointer (some ⟨w.heap.size, 0, none⟩)) rfl (by kernel_rfl) (by kernel_rfl) (by kernel_rfl) (fun _ _ _ h => h) rfl (fun W1 => by go_simp) ?_
      simp only [Act.put, List.setIfInBounds_toArray, List.set_cons_zero, List.set_cons_succ]
      have cf := (World.cell?_of_block (a := ⟨w.heap.size, 0, none⟩) hq).trans RZ1.out.c0
      have ff : wf1.frozen? ⟨w.heap.size, 0, none⟩ = false := by simp [World.frozen?, hq, RZ1.out.blk]
      have RF1 := hid RF
      have KF1 : Hid (Keeps [] w (wf1.setCell ⟨w.heap.size, 0, none⟩ (.slice va1 (k + 1) vc1))) := hid ((((KK.out.trans ((show Keeps [] wr wr.drew from ⟨rfl, rfl, rfl, Nat.le_refl _, fun _ _ _ => rfl⟩).alloc (.cells noughts 5))).trans' kf (fun i hi hm => by have := BB.out i (.inr ⟨0, by omega, .inl (by simpa using hm)⟩); omega))).setCell (Or.inr (Nat.le_refl _)) _)
      have BF1 : Hid (∀ b, RB w.heap.size (upd vf 0 (.slice va1 (k + 1) vc1)) (upd uf 0 (uf 0 ++ [(Value.slice (some ⟨wr.drew.heap.size, 0, none⟩) 64 64)])) b → w.heap.size ≤ b) := hid fun b hb => by
        have hkw := KK.out.size
        rcases hb with rfl | ⟨i, hi, e⟩
        · exact Nat.le_refl _
        · by_cases ei : i = 0
          · subst ei
            rw [upd_same, upd_same] at e
            rcases e with e | e
            · rcases hbb b e with h3 | h3
              · exact BB.out b (.inr ⟨0, by omega, .inl h3⟩)
              · omega
            · rw [List.filterMap_append, List.mem_append] at e
              rcases e with e | e
              · exact BB.out b (.inr ⟨0, by omega, .inr e⟩)
              · have eb : b = wr.heap.size := by simpa [Value.ownBlock] using e
                omega
          · rw [upd_ne _ _ ei, upd_ne _ _ ei] at e
            exact BB.out b (.inr ⟨i, hi, e⟩)
      refine any_do (i := 10) (by kernel_rfl) rfl rfl ?_
      go_simp
      refine wpAny_done (by kernel_rfl) (NoPanic.normal ?_) _
      generalize wf1.setCell ⟨w.heap.size, 0, none⟩ (.slice va1 (k + 1) vc1) = wg1 at RF1 KF1 ⊢
      generalize upd vf 0 (.slice va1 (k + 1) vc1) = vf1 at RF1 BF1
      generalize upd uf 0 (uf 0 ++ [(Value.slice (some ⟨wr.drew.heap.size, 0, none⟩) 64 64)]) = uf1 at RF1 BF1
      clear RF hbb hq kf hrun m1 m2 m3 cf ff RD1 RZ1 RY1 hz1 hl1 RR KK BB
      go_wp2_with fail
      have RD2 := hid (RF1.out.keep (show Keeps [] wg1 wg1.drew from ⟨rfl, rfl, rfl, Nat.le_refl _, fun _ _ _ => rfl⟩) (by simp))
      have RZ2 := hid (RD2.out.keep ((Keeps.refl [] wg1.drew).alloc (.cells noughts 5)) (by simp))
      have RY2 := hid (RZ2.out.keep ((Keeps.refl [] (wg1.drew.alloc (.cells noughts 5))).alloc (.cells #[(Value.slice (some ⟨wg1.drew.heap.size, 0, none⟩) 64 64)] 34)) (by simp))
      have m1 := run_loadCell (P := Try.prog) wg1.drew 39 ⟨w.heap.size, 1, none⟩ (vf1 1) RD2.out.c1 (agg_no _ (by kernel_rfl))
      have m2 := run_loadCell (P := Try.prog) (wg1.drew.alloc (.cells noughts 5)) 39 ⟨w.heap.size, 1, none⟩ (vf1 1) RZ2.out.c1 (agg_no _ (by kernel_rfl))
      have m3 := run_loadCell (P := Try.prog) ((wg1.drew.alloc (.cells noughts 5)).alloc (.cells #[(Value.slice (some ⟨wg1.drew.heap.size, 0, none⟩) 64 64)] 34)) 39 ⟨w.heap.size, 1, none⟩ (vf1 1) RY2.out.c1 (agg_no _ (by kernel_rfl))
      refine wp_region_noPanic (wp_region_any (by kernel_rfl) ?_)
      refine any_take (i := 0) (v := .pointer (some ⟨w.heap.size, 0, none⟩)) rfl (by kernel_rfl) (by kernel_rfl) (by kernel_rfl) (fun _ _ _ h => h) rfl (fun W1 => rfl) ?_
      simp only [Act.put, List.setIfInBounds_toArray, List.set_cons_zero, List.set_cons_succ]
      refine any_take (i := 1) (v := .pointer (some ⟨w.heap.size, 0, none⟩)) rfl (by kernel_rfl) (by kernel_rfl) (by kernel_rfl) (fun _ _ _ h => h) rfl (fun W1 => rfl) ?_
      simp only [Act.put, List.setIfInBounds_toArray, List.set_cons_zero, List.set_cons_succ]
      refine any_take (i := 2) (v := .pointer (some ⟨w.heap.size, 0, none⟩)) rfl (by kernel_rfl) (by kernel_rfl) (by kernel_rfl) (fun _ _ _ h => h) rfl (fun W1 => by go_simp) ?_
      simp only [Act.put, List.setIfInBounds_toArray, List.set_cons_zero, List.set_cons_succ]
      refine any_take (i := 3) (v := .pointer (some ⟨w.heap.size, 1, none⟩)) rfl (by kernel_rfl) (by kernel_rfl) (by kernel_rfl) (fun _ _ _ h => h) rfl (fun W1 => by go_simp) ?_
      simp only [Act.put, List.setIfInBounds_toArray, List.set_cons_zero, List.set_cons_succ]
      refine any_chain (i := 4) (j := 5) (k := 6) (vi := vf1 1) (R1 := fun v w1 => v = (Value.slice (some ⟨wg1.drew.heap.size, 0, none⟩) 64 64) ∧ w1 = (wg1.drew.alloc (.cells noughts 5))) (R2 := fun v u w2 => v = (Value.slice (some ⟨wg1.drew.heap.size, 0, none⟩) 64 64) ∧ u = .slice (some ⟨(wg1.drew.alloc (.cells noughts 5)).heap.size, 0, none⟩) 1 1 ∧ w2 = (wg1.drew.alloc (.cells noughts 5)).alloc (.cells #[(Value.slice (some ⟨wg1.drew.heap.size, 0, none⟩) 64 64)] 34)) (by kernel_rfl) (by kernel_rfl) (by kernel_rfl) (by kernel_rfl) (by kernel_rfl) (by decide) (by decide) rfl rfl rfl rfl rfl rfl (by simp) (by simp)
        (exec_load _ _ _ _ rfl rfl m1) (fun v w1 h => by obtain ⟨rfl, rfl⟩ := h; exact exec_load _ _ _ _ rfl rfl m2) (fun v u w2 h => by obtain ⟨rfl, rfl, rfl⟩ := h; exact exec_load _ _ _ _ rfl rfl m3)
        (fun K hK => wp_value (exec_noughts _ _ rfl rfl rfl) (hK _ _ ⟨rfl, rfl⟩)) (fun K hK => wp_value (exec_noughts _ _ rfl rfl rfl) (hK _ _ ⟨rfl, rfl⟩))
        (fun v w1 h => by obtain ⟨rfl, rfl⟩ := h; exact ⟨_, _, exec_oneRow _ _ 64 64 rfl rfl, rfl, rfl, rfl⟩) (fun v w1 h => by obtain ⟨rfl, rfl⟩ := h; exact ⟨_, _, exec_oneRow _ _ 64 64 rfl rfl, rfl, rfl, rfl⟩) ?_
      rintro v u w2 ⟨rfl, rfl, rfl⟩
      simp only [Act.put, List.setIfInBounds_toArray, List.set_cons_zero, List.set_cons_succ]
      have hz2 : (wg1.drew.alloc (.cells noughts 5)).heap.size = wg1.heap.size + 1 := by simp
      have hl2 : (uf1 1).length = k := by rw [(RF1.out.row 1 (by omega) (by omega)).len]; simp [Rk]
      obtain ⟨va2, vc2, wf2, hrun, kf, hq, RF, hbb⟩ := RefIn.app (s' := (Rk (k + 1) (k + 1))) RZ2.out 1 (by omega) (by omega) _ 64 64 _ (row_noughts wg1.drew) (fun b e => by
          have eb : wg1.heap.size = b := by simpa [Value.ownBlock] using e
          subst eb
          exact ⟨fun e => by have := RF1.out.lt' _ (.inl e); omega, fun j hj e => by have := RF1.out.lt' _ (.inr ⟨j, hj, .inl e⟩); omega, by omega⟩)
        (by simp [Rk, List.replicate_succ']) (fun i h1 h2 h3 => by simp [Rk, h2]) rfl ⟨rfl, rfl, rfl⟩ (by omega)
      rw [hl2] at hrun RF hbb
      refine any_do (i := 7) (by kernel_rfl) rfl rfl (wp_value (exec_appendT _ _ _ rfl rfl rfl hrun) ?_)
      simp only [Act.put, List.setIfInBounds_toArray, List.set_cons_zero, List.set_cons_succ]
      refine any_take (i := 8) (v := .pointer (some ⟨w.heap.size, 0, none⟩)) rfl (by kernel_rfl) (by kernel_rfl) (by kernel_rfl) (fun _ _ _ h => h) rfl (fun W1 => by go_simp) ?_
      simp only [Act.put, List.setIfInBounds_toArray, List.set_cons_zero, List.set_cons_succ]
      refine any_take (i := 9) (v := .pointer (some ⟨w.heap.size, 1, none⟩)) rfl (by kernel_rfl) (by kernel_rfl) (by kernel_rfl) (fun _ _ _ h => h) rfl (fun W1 => by go_simp) ?_
      simp only [Act.put, List.setIfInBounds_toArray, List.set_cons_zero, List.set_cons_succ]
      have cf := (World.cell?_of_block (a := ⟨w.heap.size, 1, none⟩) hq).trans RZ2.out.c1
      have ff : wf2.frozen? ⟨w.heap.size, 1, none⟩ = false := by simp [World.frozen?, hq, RZ2.out.blk]
      have RF2 := hid RF
      have KF2 : Hid (Keeps [] w (wf2.setCell ⟨w.heap.size, 1, none⟩ (.slice va2 (k + 1) vc2))) := hid ((((KF1.out.trans ((show Keeps [] wg1 wg1.drew from ⟨rfl, rfl, rfl, Nat.le_refl _, fun _ _ _ => rfl⟩).alloc (.cells noughts 5))).trans' kf (fun i hi hm => by have := BF1.out i (.inr ⟨1, by omega, .inl (by simpa using hm)⟩); omega))).setCell (Or.inr (Nat.le_refl _)) _)
      have BF2 : Hid (∀ b, RB w.heap.size (upd vf1 1 (.slice va2 (k + 1) vc2)) (upd uf1 1 (uf1 1 ++ [(Value.slice (some ⟨wg1.drew.heap.size, 0, none⟩) 64 64)])) b → w.heap.size ≤ b) := hid fun b hb => by
        have hkw := KF1.out.size
        rcases hb with rfl | ⟨i, hi, e⟩
        · exact Nat.le_refl _
        · by_cases ei : i = 1
          · subst ei
            rw [upd_same, upd_same] at e
            rcases e with e | e
            · rcases hbb b e with h3 | h3
              · exact BF1.out b (.inr ⟨1, by omega, .inl h3⟩)
              · omega
            · rw [List.filterMap_append, List.mem_append] at e
              rcases e with e | e
              · exact BF1.out b (.inr ⟨1, by omega, .inr e⟩)
              · have eb : b = wg1.heap.size := by simpa [Value.ownBlock] using e
                omega
          · rw [upd_ne _ _ ei, upd_ne _ _ ei] at e
            exact BF1.out b (.inr ⟨i, hi, e⟩)
      refine any_do (i := 10) (by kernel_rfl) rfl rfl ?_
      go_simp
      refine wpAny_done (by kernel_rfl) (NoPanic.normal ?_) _
      generalize wf2.setCell ⟨w.heap.size, 1, none⟩ (.slice va2 (k + 1) vc2) = wg2 at RF2 KF2 ⊢
      generalize upd vf1 1 (.slice va2 (k + 1) vc2) = vf2 at RF2 BF2
      generalize upd uf1 1 (uf1 1 ++ [(Value.slice (some ⟨wg1.drew.heap.size, 0, none⟩) 64 64)]) = uf2 at RF2 BF2
      clear RF hbb hq kf hrun m1 m2 m3 cf ff RD2 RZ2 RY2 hz2 hl2 RF1 KF1 BF1
      go_wp2_with fail
      go_roundw
      case rel => exact ⟨k + 1, vf2, uf2, by omega, by simp, RF2.out, BF2.out, KF2.out⟩
      case measure => simp [intOf]; omega
    · have : k = c := by omega
      subst this
      go_wp2_with fail
      go_ret2
      exact ⟨_, vf, uf, rfl, RR.out, BB.out, KK.out⟩

end Go.Proofs.Ytofoeemgplggbaa
