/- tokens: the laws' Model; rows that are the same. -/
import Derived.Test.YteeagemlaolhjaaTkU
namespace Go.Proofs.Yteeagemlaolhjaa
open Go.RowKit Go.Shelf
set_option maxRecDepth 100000
set_option linter.unusedSimpArgs false
set_option linter.unusedVariables false

theorem EyL.baseK {w w1 wr : World} {B p : Nat} {v : Value} {st : PSt} (h : EyL w wr B p v st) (hs : w.heap.size ≤ w1.heap.size) : EyL w1 wr B p v st := by
  obtain ⟨v2, he, hsb, ho⟩ := h
  exact ⟨v2, he, hsb, fun g hg => ho g (Nat.le_trans hs hg)⟩
theorem build_rk4 (w : World) (x : Rk) : (Instr.build 50 #[(0, .int .i64 x.c), (1, .int .i64 x.h), (2, .int .i64 x.n), (3, .bool x.b)]).run Try.prog w = .ok (rkV x) w := by kernel_rfl
theorem exec_rk4 {ρ : Operand → Value} {o : Oper} {w : World} (a b c d : Operand) (x : Rk) (ho : o.op = .build 50 #[(0, a), (1, b), (2, c), (3, d)]) (ha : ρ a = .int .i64 x.c) (hb : ρ b = .int .i64 x.h) (hc : ρ c = .int .i64 x.n) (hd : ρ d = .bool x.b) : (execOp ρ o).run Try.prog w = .ok (.value (rkV x)) w := by
  simp only [execOp, ho, List.map_toArray, List.map_cons, List.map_nil, ha, hb, hc, hd, Sem.run_bind, build_rk4, Result.andThen_ok, Sem.run_pure]
def MdlPost (w : World) (rs : List Rk) (e : Ending) (w' : World) : Prop := ∃ a c, e = .returned (.slice a rs.length c) ∧ RksAt w' [] (.slice a rs.length c) rs ∧ Keeps [] w w'
set_option maxHeartbeats 12800000 in
theorem model_any (w : World) (M : List Nat) (v : Value) (rs : List Rk) (h : RksAt w M v rs) (hl : rs.length ≤ 1000) : Calls Try.prog 21 #[v] w (MdlPost w rs) := by
  obtain ⟨a, c, rfl⟩ := h.shape
  have H := hid h
  clear h
  go_enter Try.func21, Try.ntmps21
  go_wp2_with fail
  go_loopw [3, 4] (fun lv iv wr => ∃ (i : Nat) (ao : Option Addr) (co : Nat), iv = .int .i64 (i : Int) ∧ i ≤ rs.length ∧ lv = .slice ao i co ∧ Hid (OwnK wr w.heap.size 50 [] (.slice ao i co) (rs.take i)) ∧ Hid (Keeps [] w wr)) (fun _ iv _ => rs.length - (intOf iv).toNat)
  case atStart => exact ⟨0, none, 0, rfl, by omega, rfl, hid (OwnK.nil _ _ _ _ (by simp)), hid (Keeps.refl _ _)⟩
  case round =>
    obtain ⟨i, ao, co, rfl, hi, rfl, HO, HK⟩ := hrel
    by_cases hlt : i < rs.length
    · obtain ⟨g, off, e1, _, hcap, hg, hM, hr⟩ := (H.out.later HK.out).open (by omega)
      have hgw : g < w.heap.size := by
        obtain ⟨g2, off2, e2, _, _, hg2, _, _⟩ := H.out.open (by omega)
        rw [e1] at e2
        injection e2 with e2
        injection e2 with e2 _
        omega
      subst e1
      have R0 := range_rk hr i hlt
      obtain ⟨x, hx⟩ : ∃ x, x = rs[i]'hlt := ⟨_, rfl⟩
      rw [← hx] at R0
      have R := hid R0
      have HX := hid hx
      have HG := hid hg
      have NG := hid (show g ∉ (Value.slice ao i co).ownBlock.toList from fun hm => by have := (HO.out.blk g (by simpa using hm)).1; omega)
      have HLT := hid hlt
      clear hr hcap hg hM R0 hx hgw
      go_wp2_with fail
      refine wp_region_any (by kernel_rfl) (wpAny_of_held (S := KpS (Value.slice ao i co).ownBlock.toList wr.heap.size wr.drew) _ _ _ _ ?_)
      change wpAnyH _ _ _ _ _ _ _ _ wr.drew
      have cR : ∀ W1, KpS (Value.slice ao i co).ownBlock.toList wr.heap.size wr.drew W1 → W1.rangeAt g (off + i * 4) x.cells := fun W1 h t u hu => h.cell (by rw [World.cell?_drew]; exact R.out t u hu) HG.out NG.out
      refine held_take (i := 0) (v := .slice ao i co) rfl (by kernel_rfl) (by kernel_rfl) (by kernel_rfl) (fun _ _ _ h => h) rfl (fun W1 hW1 => rfl) (KpS.refl _ _ _) ?_
      simp only [Act.put, List.setIfInBounds_toArray, List.set_cons_zero, List.set_cons_succ]
      refine held_take (i := 1) (v := .slice (some ⟨g, off, none⟩) rs.length c) rfl (by kernel_rfl) (by kernel_rfl) (by kernel_rfl) (fun _ _ _ h => h) rfl (fun W1 hW1 => rfl) (KpS.refl _ _ _) ?_
      simp only [Act.put, List.setIfInBounds_toArray, List.set_cons_zero, List.set_cons_succ]
      refine held_take (i := 2) (v := .int .i64 (i : Int)) rfl (by kernel_rfl) (by kernel_rfl) (by kernel_rfl) (fun _ _ _ h => h) rfl (fun W1 hW1 => rfl) (KpS.refl _ _ _) ?_
      simp only [Act.put, List.setIfInBounds_toArray, List.set_cons_zero, List.set_cons_succ]
      refine held_take (i := 3) (v := .pointer (some ⟨g, off + i * 4, none⟩)) rfl (by kernel_rfl) (by kernel_rfl) (by kernel_rfl) (fun _ _ _ h => h) rfl (fun W1 hW1 => by go_simp) (KpS.refl _ _ _) ?_
      simp only [Act.put, List.setIfInBounds_toArray, List.set_cons_zero, List.set_cons_succ]
      refine held_take (i := 4) (v := .pointer (some ⟨g, off + i * 4, none⟩)) rfl (by kernel_rfl) (by kernel_rfl) (by kernel_rfl) (fun _ _ _ h => h) rfl (fun W1 hW1 => by go_simp) (KpS.refl _ _ _) ?_
      simp only [Act.put, List.setIfInBounds_toArray, List.set_cons_zero, List.set_cons_succ]
      refine held_take (i := 5) (v := .int .i64 x.c) rfl (by kernel_rfl) (by kernel_rfl) (by kernel_rfl) (fun _ _ _ h => h) rfl (fun W1 hW1 => exec_load _ _ _ _ rfl rfl (run_loadCell W1 _ _ _ ((rkrange_at (cR W1 hW1)).1) (agg_no _ (by kernel_rfl)))) (KpS.refl _ _ _) ?_
      simp only [Act.put, List.setIfInBounds_toArray, List.set_cons_zero, List.set_cons_succ]
      refine held_take (i := 6) (v := .slice (some ⟨g, off, none⟩) rs.length c) rfl (by kernel_rfl) (by kernel_rfl) (by kernel_rfl) (fun _ _ _ h => h) rfl (fun W1 hW1 => rfl) (KpS.refl _ _ _) ?_
      simp only [Act.put, List.setIfInBounds_toArray, List.set_cons_zero, List.set_cons_succ]
      refine held_take (i := 7) (v := .int .i64 (i : Int)) rfl (by kernel_rfl) (by kernel_rfl) (by kernel_rfl) (fun _ _ _ h => h) rfl (fun W1 hW1 => rfl) (KpS.refl _ _ _) ?_
      simp only [Act.put, List.setIfInBounds_toArray, List.set_cons_zero, List.set_cons_succ]
      refine held_take (i := 8) (v := .pointer (some ⟨g, off + i * 4, none⟩)) rfl (by kernel_rfl) (by kernel_rfl) (by kernel_rfl) (fun _ _ _ h => h) rfl (fun W1 hW1 => by go_simp) (KpS.refl _ _ _) ?_
      simp only [Act.put, List.setIfInBounds_toArray, List.set_cons_zero, List.set_cons_succ]
      refine held_take (i := 9) (v := .pointer (some ⟨g, off + i * 4 + 1, none⟩)) rfl (by kernel_rfl) (by kernel_rfl) (by kernel_rfl) (fun _ _ _ h => h) rfl (fun W1 hW1 => by go_simp) (KpS.refl _ _ _) ?_
      simp only [Act.put, List.setIfInBounds_toArray, List.set_cons_zero, List.set_cons_succ]
      refine held_take (i := 10) (v := .int .i64 x.h) rfl (by kernel_rfl) (by kernel_rfl) (by kernel_rfl) (fun _ _ _ h => h) rfl (fun W1 hW1 => exec_load _ _ _ _ rfl rfl (run_loadCell W1 _ _ _ ((rkrange_at (cR W1 hW1)).2.1) (agg_no _ (by kernel_rfl)))) (KpS.refl _ _ _) ?_
      simp only [Act.put, List.setIfInBounds_toArray, List.set_cons_zero, List.set_cons_succ]
      refine held_take (i := 11) (v := .slice (some ⟨g, off, none⟩) rs.length c) rfl (by kernel_rfl) (by kernel_rfl) (by kernel_rfl) (fun _ _ _ h => h) rfl (fun W1 hW1 => rfl) (KpS.refl _ _ _) ?_
      simp only [Act.put, List.setIfInBounds_toArray, List.set_cons_zero, List.set_cons_succ]
      refine held_take (i := 12) (v := .int .i64 (i : Int)) rfl (by kernel_rfl) (by kernel_rfl) (by kernel_rfl) (fun _ _ _ h => h) rfl (fun W1 hW1 => rfl) (KpS.refl _ _ _) ?_
      simp only [Act.put, List.setIfInBounds_toArray, List.set_cons_zero, List.set_cons_succ]
      refine held_take (i := 13) (v := .pointer (some ⟨g, off + i * 4, none⟩)) rfl (by kernel_rfl) (by kernel_rfl) (by kernel_rfl) (fun _ _ _ h => h) rfl (fun W1 hW1 => by go_simp) (KpS.refl _ _ _) ?_
      simp only [Act.put, List.setIfInBounds_toArray, List.set_cons_zero, List.set_cons_succ]
      refine held_take (i := 14) (v := .pointer (some ⟨g, off + i * 4 + 2, none⟩)) rfl (by kernel_rfl) (by kernel_rfl) (by kernel_rfl) (fun _ _ _ h => h) rfl (fun W1 hW1 => by go_simp) (KpS.refl _ _ _) ?_
      simp only [Act.put, List.setIfInBounds_toArray, List.set_cons_zero, List.set_cons_succ]
      refine held_take (i := 15) (v := .int .i64 x.n) rfl (by kernel_rfl) (by kernel_rfl) (by kernel_rfl) (fun _ _ _ h => h) rfl (fun W1 hW1 => exec_load _ _ _ _ rfl rfl (run_loadCell W1 _ _ _ ((rkrange_at (cR W1 hW1)).2.2.1) (agg_no _ (by kernel_rfl)))) (KpS.refl _ _ _) ?_
      simp only [Act.put, List.setIfInBounds_toArray, List.set_cons_zero, List.set_cons_succ]
      refine held_take (i := 16) (v := .slice (some ⟨g, off, none⟩) rs.length c) rfl (by kernel_rfl) (by kernel_rfl) (by kernel_rfl) (fun _ _ _ h => h) rfl (fun W1 hW1 => rfl) (KpS.refl _ _ _) ?_
      simp only [Act.put, List.setIfInBounds_toArray, List.set_cons_zero, List.set_cons_succ]
      refine held_take (i := 17) (v := .int .i64 (i : Int)) rfl (by kernel_rfl) (by kernel_rfl) (by kernel_rfl) (fun _ _ _ h => h) rfl (fun W1 hW1 => rfl) (KpS.refl _ _ _) ?_
      simp only [Act.put, List.setIfInBounds_toArray, List.set_cons_zero, List.set_cons_succ]
      refine held_take (i := 18) (v := .pointer (some ⟨g, off + i * 4, none⟩)) rfl (by kernel_rfl) (by kernel_rfl) (by kernel_rfl) (fun _ _ _ h => h) rfl (fun W1 hW1 => by go_simp) (KpS.refl _ _ _) ?_
      simp only [Act.put, List.setIfInBounds_toArray, List.set_cons_zero, List.set_cons_succ]
      refine held_take (i := 19) (v := .pointer (some ⟨g, off + i * 4 + 3, none⟩)) rfl (by kernel_rfl) (by kernel_rfl) (by kernel_rfl) (fun _ _ _ h => h) rfl (fun W1 hW1 => by go_simp) (KpS.refl _ _ _) ?_
      simp only [Act.put, List.setIfInBounds_toArray, List.set_cons_zero, List.set_cons_succ]
      refine held_take (i := 20) (v := .bool x.b) rfl (by kernel_rfl) (by kernel_rfl) (by kernel_rfl) (fun _ _ _ h => h) rfl (fun W1 hW1 => exec_load _ _ _ _ rfl rfl (run_loadCell W1 _ _ _ ((rkrange_at (cR W1 hW1)).2.2.2) (agg_no _ (by kernel_rfl)))) (KpS.refl _ _ _) ?_
      simp only [Act.put, List.setIfInBounds_toArray, List.set_cons_zero, List.set_cons_succ]
      refine held_take (i := 21) (v := rkV x) rfl (by kernel_rfl) (by kernel_rfl) (by kernel_rfl) (fun _ _ _ h => h) rfl (fun W1 hW1 => exec_rk4 _ _ _ _ x rfl rfl rfl rfl rfl) (KpS.refl _ _ _) ?_
      simp only [Act.put, List.setIfInBounds_toArray, List.set_cons_zero, List.set_cons_succ]
      refine held_do (i := 22) (by kernel_rfl) rfl rfl (wp_value (exec_oneRk rRk _ x rfl rfl) ?_)
      have kB : Keeps [] wr (wr.drew.alloc (.cells x.cells.toArray 50)) := (Keeps.refl [] wr).drew.alloc _
      have sB : KpS (Value.slice ao i co).ownBlock.toList wr.heap.size wr.drew (wr.drew.alloc (.cells x.cells.toArray 50)) := (KpS.refl _ _ _).alloc (by simp) _
      have oB := rkrange_new wr.drew x.cells 50
      have eS : wr.drew.heap.size = wr.heap.size := rfl
      rw [eS] at oB
      refine ⟨sB, ?_⟩
      simp only [Act.put, List.setIfInBounds_toArray, List.set_cons_zero, List.set_cons_succ]
      rw [eS]
      generalize wr.drew.alloc (.cells x.cells.toArray 50) = wB at kB sB oB ⊢
      have lt : (rs.take i).length = i := by rw [List.length_take]; have := HLT.out; omega
      obtain ⟨a3, c3, w8, hr2, o2, k2, n2⟩ := append_rk rRk (HO.out.later kB) wr.heap.size x oB (by rw [lt]; have := HLT.out; omega) (by have := HK.out.size; have := kB.size; omega) 33
      rw [lt] at hr2 o2
      refine held_do (i := 23) (by kernel_rfl) rfl rfl (wp_value (exec_appendT 33 _ _ rfl rfl rfl hr2) ?_)
      have sE : KpS (Value.slice ao i co).ownBlock.toList wr.heap.size wr.drew w8 := sB.keeps k2 kB.size (fun j hj _ => hj)
      refine ⟨sE, ?_⟩
      simp only [Act.put, List.setIfInBounds_toArray, List.set_cons_zero, List.set_cons_succ]
      refine held_take (i := 24) (v := .slice a3 (i + 1) c3) rfl (by kernel_rfl) (by kernel_rfl) (by kernel_rfl) (fun _ _ _ h => h) rfl (fun W1 hW1 => by go_simp) (sE) ?_
      simp only [Act.put, List.setIfInBounds_toArray, List.set_cons_zero, List.set_cons_succ]
      refine wpAnyH_done (by kernel_rfl) ?_ _
      have O8 : Hid (OwnK w8 w.heap.size 50 [] (.slice a3 (i + 1) c3) (rs.take (i + 1))) := hid (by rw [List.take_succ_eq_append_getElem HLT.out, ← HX.out]; exact o2)
      have K8 := hid ((HK.out.trans kB).trans' k2 (S := []) (fun j hj hm => by have := (HO.out.blk j (by simpa using hm)).1; omega))
      clear cR kB sB oB eS lt hr2 o2 k2 n2 sE
      go_wp2_with fail
      go_roundw
      case rel => exact ⟨i + 1, a3, c3, by go_num, by have := HLT.out; omega, rfl, O8, K8⟩
      case measure => have := HLT.out; simp [intOf]; omega
    · obtain rfl : i = rs.length := by omega
      go_wp2_with fail
      go_ret
      have := HO.out.at
      rw [List.take_length] at this
      exact ⟨ao, co, rfl, this, HK.out⟩
set_option maxHeartbeats 12800000 in
theorem sameK_any (w : World) (M N : List Nat) (v u : Value) (rs : List Rk) (h : RksAt w M v rs) (h2 : RksAt w N u rs) (hl : rs.length ≤ 1000) : Calls Try.prog 20 #[v, u] w (PB w true) := by
  obtain ⟨a, c, rfl⟩ := h.shape
  obtain ⟨b, d, rfl⟩ := h2.shape
  have H := hid h
  have H2 := hid h2
  clear h h2
  go_enter Try.func20, Try.ntmps20
  go_wp2_with fail
  go_loopw [5] (fun iv wr => ∃ i : Nat, iv = .int .i64 (i : Int) ∧ i ≤ rs.length ∧ Hid (Keeps [] w wr)) (fun iv _ => rs.length - (intOf iv).toNat)
  case atStart => exact ⟨0, rfl, by omega, hid (Keeps.refl _ _)⟩
  case round =>
    obtain ⟨i, rfl, hi, HK⟩ := hrel
    by_cases hlt : i < rs.length
    · obtain ⟨g, off, e1, _, hcap, hg, hM, hr⟩ := (H.out.later HK.out).open (by omega)
      obtain ⟨g2, off2, e2, _, hcap2, hg2, hM2, hr2⟩ := (H2.out.later HK.out).open (by omega)
      subst e1
      subst e2
      have R0 := range_rk hr i hlt
      have S0 := range_rk hr2 i hlt
      obtain ⟨x, hx⟩ : ∃ x, x = rs[i]'hlt := ⟨_, rfl⟩
      rw [← hx] at R0 S0
      have R := hid R0
      have S := hid S0
      have HG := hid hg
      have HG2 := hid hg2
      have HLT := hid hlt
      clear hr hcap hg hM R0 hx hr2 hcap2 hg2 hM2 S0
      go_wp2_with fail
      refine wp_region_any (by kernel_rfl) (wpAny_of_held (S := KpS [] wr.heap.size wr.drew) _ _ _ _ ?_)
      change wpAnyH _ _ _ _ _ _ _ _ wr.drew
      refine held_take (i := 0) (v := .slice (some ⟨g, off, none⟩) rs.length c) rfl (by kernel_rfl) (by kernel_rfl) (by kernel_rfl) (fun _ _ _ h => h) rfl (fun W1 hW1 => rfl) (KpS.refl _ _ _) ?_
      simp only [Act.put, List.setIfInBounds_toArray, List.set_cons_zero, List.set_cons_succ]
      refine held_take (i := 1) (v := .int .i64 (i : Int)) rfl (by kernel_rfl) (by kernel_rfl) (by kernel_rfl) (fun _ _ _ h => h) rfl (fun W1 hW1 => rfl) (KpS.refl _ _ _) ?_
      simp only [Act.put, List.setIfInBounds_toArray, List.set_cons_zero, List.set_cons_succ]
      refine held_take (i := 2) (v := .pointer (some ⟨g, off + i * 4, none⟩)) rfl (by kernel_rfl) (by kernel_rfl) (by kernel_rfl) (fun _ _ _ h => h) rfl (fun W1 hW1 => by go_simp) (KpS.refl _ _ _) ?_
      simp only [Act.put, List.setIfInBounds_toArray, List.set_cons_zero, List.set_cons_succ]
      refine held_take (i := 3) (v := rkV x) rfl (by kernel_rfl) (by kernel_rfl) (by kernel_rfl) (fun _ _ _ h => h) rfl (fun W1 hW1 => exec_load _ _ _ _ rfl rfl (loadRk_run rRk W1 g (off + i * 4) _ (fun t u hu => hW1.cell (by rw [World.cell?_drew]; exact R.out t u hu) HG.out (by simp)))) (KpS.refl _ _ _) ?_
      simp only [Act.put, List.setIfInBounds_toArray, List.set_cons_zero, List.set_cons_succ]
      refine held_take (i := 4) (v := .slice (some ⟨g2, off2, none⟩) rs.length d) rfl (by kernel_rfl) (by kernel_rfl) (by kernel_rfl) (fun _ _ _ h => h) rfl (fun W1 hW1 => rfl) (KpS.refl _ _ _) ?_
      simp only [Act.put, List.setIfInBounds_toArray, List.set_cons_zero, List.set_cons_succ]
      refine held_take (i := 5) (v := .int .i64 (i : Int)) rfl (by kernel_rfl) (by kernel_rfl) (by kernel_rfl) (fun _ _ _ h => h) rfl (fun W1 hW1 => rfl) (KpS.refl _ _ _) ?_
      simp only [Act.put, List.setIfInBounds_toArray, List.set_cons_zero, List.set_cons_succ]
      refine held_take (i := 6) (v := .pointer (some ⟨g2, off2 + i * 4, none⟩)) rfl (by kernel_rfl) (by kernel_rfl) (by kernel_rfl) (fun _ _ _ h => h) rfl (fun W1 hW1 => by go_simp) (KpS.refl _ _ _) ?_
      simp only [Act.put, List.setIfInBounds_toArray, List.set_cons_zero, List.set_cons_succ]
      refine held_take (i := 7) (v := rkV x) rfl (by kernel_rfl) (by kernel_rfl) (by kernel_rfl) (fun _ _ _ h => h) rfl (fun W1 hW1 => exec_load _ _ _ _ rfl rfl (loadRk_run rRk W1 g2 (off2 + i * 4) _ (fun t u hu => hW1.cell (by rw [World.cell?_drew]; exact S.out t u hu) HG2.out (by simp)))) (KpS.refl _ _ _) ?_
      simp only [Act.put, List.setIfInBounds_toArray, List.set_cons_zero, List.set_cons_succ]
      refine held_take (i := 8) (v := .bool false) rfl (by kernel_rfl) (by kernel_rfl) (by kernel_rfl) (fun _ _ _ h => h) rfl (fun W1 hW1 => (exec_neqRk rRe _ _ _ x x rfl rfl rfl).trans (by simp [eqK])) (KpS.refl _ _ _) ?_
      simp only [Act.put, List.setIfInBounds_toArray, List.set_cons_zero, List.set_cons_succ]
      refine wpAnyH_done (by kernel_rfl) ?_ _
      go_wp2_with fail
      go_roundw
      case rel => exact ⟨i + 1, by go_num, by have := HLT.out; omega, hid HK.out.drew⟩
      case measure => have := HLT.out; simp [intOf]; omega
    · obtain rfl : i = rs.length := by omega
      go_wp2_with fail
      go_ret
      exact ⟨rfl, HK.out⟩
end Go.Proofs.Yteeagemlaolhjaa
