/- tokens: Open. -/
import Derived.Test.YtjohikekhgcepaaTkH
namespace Go.Proofs.Ytjohikekhgcepaa
open Go.RowKit Go.Shelf
set_option maxRecDepth 100000
set_option linter.unusedSimpArgs false

def openK (rs : List Rk) (c n : Int) (b : Bool) : (Int × Int) × List Rk :=
  if mayK ⟨c, 0, n, b⟩ then
    match leastK rs c with
    | none => ((0, 5), rs)
    | some k => if rs.any (clashK ⟨c, (k : Int), n, b⟩) then ((0, 8), rs) else (((k : Int), 0), insK ⟨c, (k : Int), n, b⟩ rs)
  else ((0, 1), rs)
theorem build_open (w : World) (c n : Int) (b : Bool) : (Instr.build 59 #[(0, .int .i64 c), (2, .int .i64 n), (3, .bool b)]).run Try.prog w = .ok (rkV ⟨c, 0, n, b⟩) w := by kernel_rfl
theorem exec_openB {ρ : Operand → Value} {o : Oper} {w : World} (x y z : Operand) (c n : Int) (b : Bool) (ho : o.op = .build 59 #[(0, x), (2, y), (3, z)]) (hx : ρ x = .int .i64 c) (hy : ρ y = .int .i64 n) (hz : ρ z = .bool b) : (execOp ρ o).run Try.prog w = .ok (.value (rkV ⟨c, 0, n, b⟩)) w := by
  simp only [execOp, ho, List.map_toArray, List.map_cons, List.map_nil, hx, hy, hz, Sem.run_bind, build_open, Result.andThen_ok, Sem.run_pure]
def OpenPost (w : World) (M : List Nat) (q : Nat) (r : (Int × Int) × List Rk) (e : Ending) (w' : World) : Prop :=
  e = .returned (.tuple #[.int .i64 r.1.1, .int .i64 r.1.2]) ∧ TokAt w' M q r.2 ∧ Keeps [q] w w'
set_option maxHeartbeats 12800000 in
theorem open_any {w : World} {M : List Nat} {q : Nat} {rs : List Rk} (h : TokAt w M q rs) (hM : ∀ b ∈ M, b < w.heap.size) (c n : Int) (b : Bool) (hl : rs.length < 1000) :
    Calls Try.prog 19 #[.pointer (some ⟨q, 0, none⟩), .int .i64 c, .int .i64 n, .bool b] w (OpenPost w M q (openK rs c n b)) := by
  have ka : Keeps [] w (w.alloc (.cells (Rk.cells ⟨c, 0, n, b⟩).toArray 59)) := (Keeps.refl [] w).alloc _
  have HW := hid h
  have HA := hid (h.later ka)
  have HM := hid hM
  have HL := hid hl
  have K1 := hid ka
  have RG := hid (rkrange_new w (Rk.cells ⟨c, 0, n, b⟩) 59)
  have BK := hid (heap_alloc_new w (.cells (Rk.cells ⟨c, 0, n, b⟩).toArray 59))
  have HS := hid (show (w.alloc (.cells (Rk.cells ⟨c, 0, n, b⟩).toArray 59)).heap.size = w.heap.size + 1 by simp)
  obtain ⟨mb, hmb⟩ : ∃ z, z = mayK ⟨c, 0, n, b⟩ := ⟨_, rfl⟩
  have HMB := hid hmb
  obtain ⟨o, ho⟩ : ∃ z, z = leastK rs c := ⟨_, rfl⟩
  have HO := hid ho
  obtain ⟨R, hR⟩ : ∃ z, z = openK rs c n b := ⟨_, rfl⟩
  have HR := hid hR
  rw [← hR]
  have HQQ := hid h.lt
  clear h hM hl ka hmb ho hR
  have MB : Hid (∀ W, Calls Try.prog 68 #[rkV ⟨c, 0, n, b⟩] W (PB W mb)) := hid (fun W => by rw [HMB.out]; exact mayBe_any W _)
  go_enter Try.func19, Try.ntmps19
  go_wp2_with (first | (go_at_call 67; refine (tkMade_any HW.out).mono ?_; rintro e _ ⟨rfl, rfl⟩) | (refine wpList_is rfl _ _ (exec_openB _ _ _ c n b rfl rfl rfl rfl) ?_) | (refine wpList_allocRk cRk rfl rfl ?_) | (refine wpList_newRk cRk rfl w _ _ rfl rfl rfl ⟨c, 0, n, b⟩ rfl ?_) | (refine wpList_loadRk cRk rfl _ rfl w.heap.size 0 rfl ⟨c, 0, n, b⟩ RG.out ?_) | (go_at_call 68; refine Hid.out ?_) | fail)
  refine hid ?_
  refine (MB.out _).mono ?_
  rintro e w2 ⟨rfl, k2⟩
  generalize w.alloc (.cells (Rk.cells ⟨c, 0, n, b⟩).toArray 59) = w1 at HA K1 RG BK HS k2
  have K2 := hid (K1.out.trans k2)
  have HA2 := hid (HA.out.later k2)
  have B2 := hid ((k2.block w.heap.size (by have := HS.out; omega) (by simp)).trans BK.out)
  clear k2
  cases mb with
  | false =>
    go_wp2_with fail
    go_ret2
    have e : R = ((0, 1), rs) := HR.out.trans (by unfold openK; rw [← HMB.out]; rfl)
    rw [e]
    exact ⟨rfl, HW.out.later K2.out, K2.out.mono (by simp)⟩
  | true =>
    go_wp2_with fail
    refine (least_any HA2.out c).mono ?_
    rintro e w3 ⟨rfl, k3⟩
    rw [← HO.out]
    have K3 := hid (K2.out.trans k3)
    have HA3 := hid (HA2.out.later k3)
    have B3 := hid ((k3.block w.heap.size (lt_of_block B2.out) (by simp)).trans B2.out)
    clear k3
    cases o with
    | none =>
      go_wp2_with fail
      go_ret2
      have e : R = ((0, 5), rs) := HR.out.trans (by unfold openK; rw [← HMB.out, ← HO.out]; rfl)
      rw [e]
      exact ⟨rfl, HA3.out, K3.out.mono (by simp)⟩
    | some k =>
      obtain ⟨cc, ff⟩ := five_cells B3.out 1
      change w3.cell? ⟨w.heap.size, 1, none⟩ = some (.int .i64 0) at cc
      have B4 := hid (set_five (i := 1) B3.out (.int .i64 (k : Int)))
      have sk : Keeps [w.heap.size] w3 (w3.setCell ⟨w.heap.size, 1, none⟩ (.int .i64 (k : Int))) := set_keep
      have K4 := hid (K3.out.trans' sk (fun i hi hm => by simp at hm; omega))
      have HA4 := hid ((HW.out.later K4.out))
      have hsz4 : w.heap.size < (w3.setCell ⟨w.heap.size, 1, none⟩ (.int .i64 (k : Int))).heap.size := lt_of_block B4.out
      have HZ := hid hsz4
      clear sk hsz4
      obtain ⟨r, hr⟩ : ∃ r : Rk, r = ⟨c, (k : Int), n, b⟩ := ⟨_, rfl⟩
      have HRK := hid hr
      have R4 : Hid ((w3.setCell ⟨w.heap.size, 1, none⟩ (.int .i64 (k : Int))).rangeAt w.heap.size 0 r.cells) := hid (fun j u hu => by
        rw [Nat.zero_add, (five_cells B4.out j).1, ← hu, hr]
        simp [Rk.cells, ← Array.getElem?_toList])
      clear hr
      go_wp2_with fail
      generalize w3.setCell ⟨w.heap.size, 1, none⟩ (.int .i64 (k : Int)) = w4 at B4 K4 HA4 HZ R4 ⊢
      obtain ⟨a, cp, c0, c1, hv⟩ := HA4.out.cells
      have C4 := hid c1
      have HV4 := hid hv
      clear c0 c1 hv cc ff
      refine wp_region_any (by kernel_rfl) (wpAny_of_held (S := KpS [] w4.heap.size w4.drew) _ _ _ _ ?_)
      change wpAnyH _ _ _ _ _ _ _ _ w4.drew
      refine held_take (i := 0) (v := .pointer (some ⟨q, 0, none⟩)) rfl (by kernel_rfl) (by kernel_rfl) (by kernel_rfl) (fun _ _ _ h => h) rfl (fun W1 hW1 => rfl) (KpS.refl _ _ _) ?_
      simp only [Act.put, List.setIfInBounds_toArray, List.set_cons_zero, List.set_cons_succ]
      refine held_take (i := 1) (v := .pointer (some ⟨q, 0, none⟩)) rfl (by kernel_rfl) (by kernel_rfl) (by kernel_rfl) (fun _ _ _ h => h) rfl (fun W1 hW1 => by go_simp) (KpS.refl _ _ _) ?_
      simp only [Act.put, List.setIfInBounds_toArray, List.set_cons_zero, List.set_cons_succ]
      refine held_take (i := 2) (v := .pointer (some ⟨q, 1, none⟩)) rfl (by kernel_rfl) (by kernel_rfl) (by kernel_rfl) (fun _ _ _ h => h) rfl (fun W1 hW1 => by go_simp) (KpS.refl _ _ _) ?_
      simp only [Act.put, List.setIfInBounds_toArray, List.set_cons_zero, List.set_cons_succ]
      refine held_take (i := 3) (v := .slice a rs.length cp) rfl (by kernel_rfl) (by kernel_rfl) (by kernel_rfl) (fun _ _ _ h => h) rfl (fun W1 hW1 => exec_load _ _ _ _ rfl rfl (run_loadCell W1 _ _ _ (hW1.cell (by rw [World.cell?_drew]; exact C4.out) HA4.out.lt (by simp)) (agg_no _ (by kernel_rfl)))) (KpS.refl _ _ _) ?_
      simp only [Act.put, List.setIfInBounds_toArray, List.set_cons_zero, List.set_cons_succ]
      refine held_take (i := 4) (v := rkV r) rfl (by kernel_rfl) (by kernel_rfl) (by kernel_rfl) (fun _ _ _ h => h) rfl (fun W1 hW1 => exec_load _ _ _ _ rfl rfl (loadRk_run cRk W1 w.heap.size 0 _ (fun t u hu => hW1.cell (by rw [World.cell?_drew]; exact R4.out t u hu) HZ.out (by simp)))) (KpS.refl _ _ _) ?_
      simp only [Act.put, List.setIfInBounds_toArray, List.set_cons_zero, List.set_cons_succ]
      refine held_take (i := 5) (v := .func (.func 71) #[rkV r] #[]) rfl (by kernel_rfl) (by kernel_rfl) (by kernel_rfl) (fun _ _ _ h => h) rfl (fun W1 hW1 => by go_simp) (KpS.refl _ _ _) ?_
      simp only [Act.put, List.setIfInBounds_toArray, List.set_cons_zero, List.set_cons_succ]
      refine held_do (i := 6) (by kernel_rfl) rfl rfl (wp_enter (f := 70) (args := #[.slice a rs.length cp, .func (.func 71) #[rkV r] #[]]) (by go_simp) (cont_any (cb_clash _ r) (HV4.out.later (Keeps.refl [] w4).drew) (by have := HL.out; omega)) ?_)
      rintro e w5 ⟨rfl, k5⟩
      have s5 : KpS [] w4.heap.size w4.drew w5 := (KpS.refl _ _ _).keeps k5 (Nat.le_refl _) (by simp)
      refine ⟨_, rfl, s5, ?_⟩
      simp only [Act.put, List.setIfInBounds_toArray, List.set_cons_zero, List.set_cons_succ]
      refine wpAnyH_done (by kernel_rfl) ?_ _
      have k45 : Keeps [] w4 w5 := ((Keeps.refl [] w4).drew).trans k5
      have K5 := hid (K4.out.trans k45)
      have R5 := hid (rkrange_keep R4.out k45 (by simp))
      clear s5 k5 k45
      obtain ⟨cb, hcb⟩ : ∃ z, z = rs.any (clashK r) := ⟨_, rfl⟩
      have HCB := hid hcb
      rw [← hcb]
      clear hcb
      cases cb with
      | true =>
        go_wp2_with fail
        go_ret2
        have e : R = ((0, 8), rs) := HR.out.trans (by unfold openK; rw [← HMB.out, ← HO.out]; simp only [if_true]; rw [← HRK.out, ← HCB.out]; rfl)
        rw [e]
        exact ⟨rfl, HW.out.later K5.out, K5.out.mono (by simp)⟩
      | false =>
        go_wp2_with (first | (refine wpList_loadRk cRk rfl _ rfl w.heap.size 0 rfl r R5.out ?_) | fail)
        refine (put_any (HW.out.later K5.out) (fun b hb => Nat.lt_of_lt_of_le (HM.out b hb) K5.out.size) r HL.out).mono ?_
        rintro e w6 ⟨rfl, t6, k6⟩
        have T6 := hid t6
        have K6 := hid ((K5.out.mono (S' := [q]) (by simp)).trans k6)
        clear t6 k6
        go_wp2_with fail
        go_ret2
        have e : R = (((k : Int), 0), insK r rs) := HR.out.trans (by unfold openK; rw [← HMB.out, ← HO.out]; simp only [if_true]; rw [← HRK.out, ← HCB.out]; rfl)
        rw [e]
        exact ⟨rfl, T6.out, K6.out⟩
end Go.Proofs.Ytjohikekhgcepaa
