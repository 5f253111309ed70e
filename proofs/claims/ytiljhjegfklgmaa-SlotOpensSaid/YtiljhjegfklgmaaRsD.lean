/- The reference's slots: OpenSlots. -/
import Derived.Test.YtiljhjegfklgmaaRsC
namespace Go.Proofs.Ytiljhjegfklgmaa
open Go.RowKit Go.Shelf
set_option maxRecDepth 100000
set_option linter.unusedSimpArgs false

section
variable {ops : Array Oper} {rest : List Oper} {o : Oper} {a : Act} {w : World} {Q : Exit → Act → World → Prop}
theorem wpList_storeHeldNew (hgd : o.guard = none) (x y : Operand) (ho : o.op = .store 79 x y) (W : World) (c0 c1 c2 : Value) (hw : w = W.alloc (.cells #[c0, c1, c2] 79)) (N : Nat) (hx : a.eval x = .pointer (some ⟨N, 0, none⟩)) (hN : N = W.heap.size)
    (u : Bool) (kv : Value) (n : Int) (hy : a.eval y = .agg #[.bool u, kv, .int .i64 n]) (h1 : kv.oneCell' = true)
    (h : wpList Try.prog ops Q rest (a.put o.dst undef) (W.alloc (.cells #[.bool u, kv, .int .i64 n] 79))) : wpList Try.prog ops Q (o :: rest) a w := by
  subst hN
  exact wpList_storeNew hgd 79 x y ho W _ _ hw hx hy (size_of' iHeld) (by rfl) (by rw [← Array.all_toList]; simp only [List.all_cons, List.all_nil, h1]; rfl) h
end
theorem exec_oneHeld {ρ : Operand → Value} {o : Oper} {w : World} (x : Operand) (a b c : Value) (ho : o.op = .buildSlice 75 1 #[(0, x)]) (hx : ρ x = .agg #[a, b, c]) :
    (execOp ρ o).run Try.prog w = .ok (.value (.slice (some ⟨w.heap.size, 0, none⟩) 1 1)) (w.alloc (.cells #[a, b, c] 79)) := by
  obtain ⟨ie, hie, hz, hs, _⟩ := info_parts infoHeld
  have h : (Instr.buildSlice 75 1 #[(0, .agg #[a, b, c])]).run Try.prog w = .ok (.slice (some ⟨w.heap.size, 0, none⟩) 1 1) (w.alloc (.cells #[a, b, c] 79)) := by
    refine run_buildSlice w _ _ 1 _ _ ie _ Try.underlying75 hie hz (by rw [hs]; decide) (by rw [hs]; decide) ?_
    rw [hs]
    have e : (Array.range (1 * 3)) = #[0, 1, 2] := rfl
    have e2 : (Value.agg #[.bool false, .slice none 0 0, .int .i64 0]).cells = #[.bool false, .slice none 0 0, .int .i64 0] := rfl
    have e3 : (Value.agg #[a, b, c]).cells = #[a, b, c] := rfl
    simp only [Instr.fill, e, e2, e3]
    simp
  simp only [execOp, ho, List.map_toArray, List.map_cons, List.map_nil, hx, Sem.run_bind, h, Result.andThen_ok, Sem.run_pure]

/-- A sector of the reference's disk. -/
theorem RefS.sector {w : World} {p : Nat} {s : DS} {G : List Nat} (h : RefS w p s G) (i : Nat) (hi : i < s.cnt) :
    ∃ g c a uc, w.cell? ⟨p, 0, none⟩ = some (.slice (some ⟨g, 0, none⟩) s.cnt c) ∧ w.cell? ⟨g, i, none⟩ = some (.slice a 64 uc) ∧ RowAt w (.slice a 64 uc) (s.now i).1 ∧ g ∈ G ∧ ∀ b, (Value.slice a 64 uc).ownBlock = some b → b ∈ G := by
  obtain ⟨sr, hs, vf, uf, hi2, rfl⟩ := h
  have hrow : RowsOwn w (vf 0) (uf 0) ((List.range sr.cnt).map fun i => (sr.now i).1) := hi2.row 0 (by decide) (by decide)
  have hci : i < ((List.range sr.cnt).map fun i => (sr.now i).1).length := by rw [List.length_map, List.length_range, hs.cnt]; exact hi
  obtain ⟨g, c, a, uc, e1, e2, e3, e4⟩ := RowsOwn.at hrow i hci
  have el : ((List.range sr.cnt).map fun i => (sr.now i).1)[i] = (s.now i).1 := by
    rw [List.getElem_map, List.getElem_range, hs.now]
  rw [el] at e2 e3
  rw [(s.now i).2.1] at e2 e3
  rw [List.length_map, List.length_range, hs.cnt] at e1
  refine ⟨g, c, a, uc, by rw [hi2.c0, e1], e2, e3, (rbl_iff _ _ _ _).2 (.inr ⟨0, by decide, .inl (by rw [e1]; rfl)⟩), fun b hb => (rbl_iff _ _ _ _).2 (.inr ⟨0, by decide, .inr ?_⟩)⟩
  have hul : i < (uf 0).length := by rw [hrow.len]; exact hci
  obtain ⟨g2, c2, e5, _, e6⟩ := hrow.open (by omega)
  rw [e1] at e5
  injection e5 with e5 _ _
  injection e5 with e5
  injection e5 with e5
  subst e5
  have e7 := e6 i hul
  rw [e2] at e7
  injection e7 with e7
  exact List.mem_filterMap.2 ⟨_, List.getElem_mem hul, by rw [← e7]; exact hb⟩

theorem headsS_succ (s : DS) (first k : Nat) : headsS s first (k + 1) = headsS s first k ++ [hdG (s.now (first + k * 8)).1] := by
  unfold headsS
  rw [List.range_succ, List.map_append]
  rfl

set_option maxHeartbeats 8000000 in
theorem ropen_any (w : World) (p : Nat) (s : DS) (G : List Nat) (H : RefS w p s G) (first n : Nat) (hf : first ≤ s.cnt) (hc : s.cnt ≤ 4160) (hn : n = (s.cnt - first) / 8) (hd : s.dead = false) :
    Calls Try.prog 10 #[.pointer (some ⟨p, 0, none⟩), .int .i64 first] w fun e w' => Keeps [] w w' ∧
      ((goodS s first n ∧ ∃ q M, e = .returned (.tuple #[.pointer (some ⟨q, 0, none⟩), .int .i64 0]) ∧ RsAt w' q p first (headsS s first n) M ∧ ∀ b ∈ M, w.heap.size ≤ b) ∨ (¬ goodS s first n ∧ e = .returned (.tuple #[.pointer none, .int .i64 4]))) := by
  have HH := hid H
  have HN := hid hn
  obtain ⟨C4, C6, ⟨ca, cc, C0⟩, hpG, hpw⟩ := H.cells
  rw [hd] at C6
  have t1 : ¬ (s.cnt : Int) < (first : Int) := by omega
  have t2 : ¬ (first : Int) < 0 := by omega
  have C0' := hid C0
  have C6' := hid C6
  clear H hn hd C4
  go_enter Try.func10, Try.ntmps10
  go_wp2_with fail
  have K0 := hid ((Keeps.refl [] w).alloc (.cells #[.pointer (some ⟨p, 0, none⟩), .int .i64 first, .slice none 0 0] 77))
  have R0 : Hid (RslIn (w.alloc (.cells #[.pointer (some ⟨p, 0, none⟩), .int .i64 first, .slice none 0 0] 77)) w.heap.size p first (.slice none 0 0) []) := hid
    ⟨heap_alloc_new w _, World.ownsRow_nil _ _ _ _, by simp, by simp, by simp [Value.ownBlock]⟩
  generalize w.alloc (.cells #[.pointer (some ⟨p, 0, none⟩), .int .i64 first, .slice none 0 0] 77) = w0 at K0 R0 ⊢
  clear C0 C6
  go_loopw [7] (fun v wr => ∃ (k m : Nat) (Lv : Value) (rs : List Rh), k ≤ n ∧ v = .int .i64 (m : Int) ∧ Hid (m = first + k * 8) ∧ Hid (RslIn wr w.heap.size p first Lv rs) ∧ Hid (rs.map Rh.hd = headsS s first k) ∧ Hid (∀ b ∈ rsl w.heap.size Lv rs, w.heap.size ≤ b) ∧ Hid (Keeps [] w wr) ∧ Hid (∀ j, j < k → hdE (s.now (first + j * 8)).1 = 0)) (fun v _ => s.cnt + 8 - (intOf v).toNat)
  case atStart => exact ⟨0, first, _, [], by omega, rfl, hid (by omega), R0, hid rfl, hid (by intro b hb; rcases (mem_rsl b).1 hb with rfl | e | ⟨r, hr, e⟩; exact Nat.le_refl _; cases e; simp at hr), K0, hid (by omega)⟩
  case round =>
    obtain ⟨k, m, Lv, rs, hk, rfl, HM, RR, EH, LM, KK, GO⟩ := hrel
    have c0 : wr.cell? ⟨p, 0, none⟩ = some (.slice ca s.cnt cc) := keeps_cell4 KK.out C0'.out (by simp)
    by_cases hlt : k < n
    · have hat : m + 8 ≤ s.cnt := by have := HN.out; have := HM.out; omega
      have HRr := HH.out.keep KK.out (by simp)
      obtain ⟨g, c, a, uc, e0, e1, row, hg, hrb⟩ := HRr.sector m (by omega)
      have ROW := hid row
      have hm2 : (m : Int) < (s.cnt : Int) := by omega
      have hm4 : m ≤ 4160 := by omega
      have ML := hid (s.now m).2.1
      clear c0 row hrb HRr
      go_wp2_with fail
      refine (rread_any5 wr _ _ ROW.out ML.out).mono ?_
      rintro e w2 ⟨kv, rfl, rk, nk, k2⟩
      have RR2 := hid (RR.out.keep k2 (by simp))
      have KK2 := hid (KK.out.trans k2)
      have K2 := hid k2
      clear k2 hg
      cases hh : hdOf (s.now m).1 with
      | none =>
        have BAD : Hid (¬ goodS s first n) := hid (fun hgd => by
          have := hgd k hlt
          rw [← HM.out] at this
          unfold hdE at this
          rw [hh] at this
          simp at this)
        rw [hh] at rk
        obtain ⟨ka, kc, ekv, -⟩ := id rk
        subst ekv
        clear rk nk hh
        go_wp2_with (first | (refine wpList_storeHeldNew rfl _ _ rfl w2 _ _ _ rfl _ rfl rfl false _ 0 rfl rfl ?_) | fail)
        go_ret2
        exact ⟨KK2.out.alloc _, .inr ⟨BAD.out, rfl⟩⟩
      | some h =>
        have HGD : Hid (hdG (s.now m).1 = h) := hid (by unfold hdG; rw [hh]; rfl)
        have HED : Hid (hdE (s.now m).1 = 0) := hid (by unfold hdE; rw [hh]; rfl)
        rw [hh] at rk
        obtain ⟨ka, kc, ekv, -⟩ := id rk
        subst ekv
        obtain ⟨u, hn0, key⟩ := h
        have RK := hid rk
        have NK := hid nk
        simp only [Option.getD_some, Option.isSome_some] at RK ⊢
        clear rk nk hh
        generalize hky : key.length = kl at *
        go_wp2_with (first | (refine wpList_storeHeldNew rfl _ _ rfl w2 _ _ _ rfl _ rfl rfl u (.slice ka kl kc) hn0 rfl rfl ?_) | fail)
        have kA := (Keeps.refl [] w2).alloc (.cells #[.bool u, .slice ka kl kc, .int .i64 hn0] 79)
        have q8 := heap_alloc_new w2 (.cells #[.bool u, .slice ka kl kc, .int .i64 hn0] 79)
        have R3 := RR2.out.keep kA (by simp)
        have K3 := hid (KK2.out.trans kA)
        have RK3 := hid (RK.out.keep kA (by intro _ _ _ _ _; simp))
        have Q8 := hid q8
        have Z2 := hid K2.out.size
        have LT2 := hid RR.out.lt
        have h3 : w2.heap.size < (w2.alloc (.cells #[.bool u, .slice ka kl kc, .int .i64 hn0] 79)).heap.size := by simp
        have H3 := hid h3
        obtain ⟨la, lc, hLv⟩ := R3.shape
        clear kA q8 RK h3
        generalize w2.alloc (.cells #[.bool u, .slice ka kl kc, .int .i64 hn0] 79) = w3 at R3 K3 RK3 Q8 H3 ⊢
        generalize w2.heap.size = b8 at Q8 H3 Z2 ⊢
        have hoff : ∀ b, (Rh.mk u (.slice ka kl kc) key hn0).blk = some b → b ≠ w.heap.size ∧ Lv.ownBlock ≠ some b ∧ b < w3.heap.size := fun b eb => by
          obtain ⟨hne, e⟩ := Rh.blk_iff.1 eb
          have h1 := NK.out b (by rw [← e]; cases ka <;> rfl)
          refine ⟨fun e2 => ?_, fun e2 => ?_, ?_⟩
          · have := LT2.out w.heap.size ((mem_rsl _).2 (.inl rfl)); omega
          · have := LT2.out b ((mem_rsl _).2 (.inr (.inl e2))); omega
          · cases ka with
            | none => cases e
            | some ad =>
              injection e with e
              rw [← e]
              exact row_blk RK3.out rfl hne
        have R3d := R3.keep ((Keeps.refl [] w3).drew) (by simp)
        obtain ⟨va, vc, w5, run5, kp5, hq5, r5, hb5⟩ := R3d.app ⟨u, .slice ka kl kc, key, hn0⟩ (RK3.out.keep ((Keeps.refl [] w3).drew) (by intro _ _ _ _ _; simp)) hoff (by have := congrArg List.length EH.out; simp [headsS] at this; have := HN.out; omega)
        have hqn : w.heap.size ∉ Lv.ownBlock.toList := by simpa using R3.no
        have hbn : b8 ∉ Lv.ownBlock.toList := fun hm => by have := LT2.out b8 ((mem_rsl _).2 (.inr (.inl (by simpa using hm)))); have := Z2.out; omega
        refine wp_region_any (by kernel_rfl) (wpAny_of_late (late := [10]) (S := KpS Lv.ownBlock.toList w3.heap.size w3.drew) _ _ _ _ ?_)
        change wpAnyT _ _ _ _ _ _ _ _ _ w3.drew
        have cP : ∀ W1, KpS Lv.ownBlock.toList w3.heap.size w3.drew W1 → W1.cell? ⟨w.heap.size, 2, none⟩ = some Lv ∧ (∀ j v, [Value.bool u, .slice ka kl kc, .int .i64 hn0][j]? = some v → W1.cell? ⟨b8, 0 + j, none⟩ = some v) := fun W1 h => ⟨h.cell (by rw [World.cell?_drew]; exact R3.c2) R3.ltq hqn, fun j v hv => by
          refine h.cell ?_ H3.out hbn
          rw [World.cell?_drew, Nat.zero_add, cell_of_row _ _ j _ _ (0, 0) Q8.out]
          simpa using hv⟩
        refine late_take (i := 0) (v := .pointer (some ⟨w.heap.size, 0, none⟩)) rfl (by kernel_rfl) (by kernel_rfl) (by kernel_rfl) (by kernel_rfl) (by kernel_rfl) (fun _ _ _ h => h) rfl (fun W1 hW1 => rfl) (KpS.refl _ _ _) ?_
        simp only [Act.put, List.setIfInBounds_toArray, List.set_cons_zero, List.set_cons_succ]
        refine late_take (i := 1) (v := .pointer (some ⟨w.heap.size, 0, none⟩)) rfl (by kernel_rfl) (by kernel_rfl) (by kernel_rfl) (by kernel_rfl) (by kernel_rfl) (fun _ _ _ h => h) rfl (fun W1 hW1 => rfl) (KpS.refl _ _ _) ?_
        simp only [Act.put, List.setIfInBounds_toArray, List.set_cons_zero, List.set_cons_succ]
        refine late_take (i := 2) (v := .pointer (some ⟨w.heap.size, 0, none⟩)) rfl (by kernel_rfl) (by kernel_rfl) (by kernel_rfl) (by kernel_rfl) (by kernel_rfl) (fun _ _ _ h => h) rfl (fun W1 hW1 => by go_simp) (KpS.refl _ _ _) ?_
        simp only [Act.put, List.setIfInBounds_toArray, List.set_cons_zero, List.set_cons_succ]
        refine late_take (i := 3) (v := .pointer (some ⟨w.heap.size, 2, none⟩)) rfl (by kernel_rfl) (by kernel_rfl) (by kernel_rfl) (by kernel_rfl) (by kernel_rfl) (fun _ _ _ h => h) rfl (fun W1 hW1 => by go_simp) (KpS.refl _ _ _) ?_
        simp only [Act.put, List.setIfInBounds_toArray, List.set_cons_zero, List.set_cons_succ]
        refine late_take (i := 4) (v := Lv) rfl (by kernel_rfl) (by kernel_rfl) (by kernel_rfl) (by kernel_rfl) (by kernel_rfl) (fun _ _ _ h => h) rfl (fun W1 hW1 => exec_load _ _ _ _ rfl rfl (run_loadCell W1 _ _ _ ((cP W1 hW1).1) (agg_no _ (by kernel_rfl)))) (KpS.refl _ _ _) ?_
        simp only [Act.put, List.setIfInBounds_toArray, List.set_cons_zero, List.set_cons_succ]
        refine late_take (i := 5) (v := .agg #[.bool u, .slice ka kl kc, .int .i64 hn0]) rfl (by kernel_rfl) (by kernel_rfl) (by kernel_rfl) (by kernel_rfl) (by kernel_rfl) (fun _ _ _ h => h) rfl (fun W1 hW1 => exec_load _ _ _ _ rfl rfl (load_row [.bool u, .slice ka kl kc, .int .i64 hn0] uHeld rfl iHeld (cP W1 hW1).2)) (KpS.refl _ _ _) ?_
        simp only [Act.put, List.setIfInBounds_toArray, List.set_cons_zero, List.set_cons_succ]
        refine late_do (i := 6) (by kernel_rfl) rfl rfl (wp_value (exec_oneHeld _ _ _ _ rfl rfl) ?_)
        have s5 : KpS Lv.ownBlock.toList w3.heap.size w3.drew (w3.drew.alloc (.cells #[.bool u, .slice ka kl kc, .int .i64 hn0] 79)) := (KpS.refl _ _ w3.drew).alloc (Nat.le_refl _) _
        refine ⟨Or.inr s5, ?_⟩
        simp only [Act.put, List.setIfInBounds_toArray, List.set_cons_zero, List.set_cons_succ]
        refine late_do (i := 7) (by kernel_rfl) rfl rfl (wp_value (exec_appendT 75 _ _ rfl rfl rfl run5) ?_)
        have s6 : KpS Lv.ownBlock.toList w3.heap.size w3.drew w5 := (KpS.refl _ _ _).keeps kp5 (Nat.le_refl _) (fun b hb _ => hb)
        refine ⟨Or.inr s6, ?_⟩
        simp only [Act.put, List.setIfInBounds_toArray, List.set_cons_zero, List.set_cons_succ]
        refine late_take (i := 8) (v := .pointer (some ⟨w.heap.size, 0, none⟩)) rfl (by kernel_rfl) (by kernel_rfl) (by kernel_rfl) (by kernel_rfl) (by kernel_rfl) (fun _ _ _ h => h) rfl (fun W1 hW1 => by go_simp) (s6) ?_
        simp only [Act.put, List.setIfInBounds_toArray, List.set_cons_zero, List.set_cons_succ]
        refine late_take (i := 9) (v := .pointer (some ⟨w.heap.size, 2, none⟩)) rfl (by kernel_rfl) (by kernel_rfl) (by kernel_rfl) (by kernel_rfl) (by kernel_rfl) (fun _ _ _ h => h) rfl (fun W1 hW1 => by go_simp) (s6) ?_
        simp only [Act.put, List.setIfInBounds_toArray, List.set_cons_zero, List.set_cons_succ]
        have c5 : w5.cell? ⟨w.heap.size, 2, none⟩ = some Lv := (cP w5 s6).1
        have f5 : w5.frozen? ⟨w.heap.size, 2, none⟩ = false := by
          simp only [World.frozen?]
          rw [hq5]
          exact R3.fr 2
        rw [hLv] at c5
        refine late_do (i := 10) (by kernel_rfl) rfl rfl (wp_storedD (w' := w5.setCell ⟨w.heap.size, 2, none⟩ (.slice va (rs.length + 1) vc)) (by go_simp) ⟨Or.inl rfl, ?_⟩)
        simp only [Act.put]
        refine wpAnyT_done (by kernel_rfl) ?_ _
        have kk5 : Keeps Lv.ownBlock.toList w3 w5 := ((Keeps.refl [] w3).drew.mono (by simp)).trans kp5
        have K5 := hid ((K3.out.trans' kk5 (fun i hi hm => by have := LM.out i ((mem_rsl i).2 (.inr (.inl (by simpa using hm)))); omega)).setCell (p := ⟨w.heap.size, 2, none⟩) (.inr (Nat.le_refl _)) (.slice va (rs.length + 1) vc))
        have R5 := hid r5
        have LM5 : Hid (∀ b ∈ rsl w.heap.size (.slice va (rs.length + 1) vc) (rs ++ [⟨u, .slice ka kl kc, key, hn0⟩]), w.heap.size ≤ b) := hid (fun b hb => by
          have hz3 := K3.out.size
          rcases (mem_rsl b).1 hb with rfl | e | ⟨r, hr, e⟩
          · exact Nat.le_refl _
          · rcases hb5 b e with h1 | h1
            · exact LM.out b ((mem_rsl b).2 (.inr (.inl h1)))
            · have h2 : w3.heap.size ≤ b := h1
              omega
          · rcases List.mem_append.1 hr with hr | hr
            · exact LM.out b ((mem_rsl b).2 (.inr (.inr ⟨r, hr, e⟩)))
            · obtain rfl := List.mem_singleton.1 hr
              have h1 := NK.out b (by rw [← (Rh.blk_iff.1 e).2]; cases ka <;> rfl)
              have := KK.out.size
              omega)
        have EH5 : Hid ((rs ++ [Rh.mk u (.slice ka kl kc) key hn0]).map Rh.hd = headsS s first (k + 1)) := hid (by
          rw [List.map_append, EH.out, headsS_succ, ← HM.out, HGD.out]
          rfl)
        have GO5 : Hid (∀ j, j < k + 1 → hdE (s.now (first + j * 8)).1 = 0) := hid (fun j hj => by
          by_cases e : j = k
          · subst e; rw [← HM.out]; exact HED.out
          · exact GO.out j (by omega))
        clear cP s5 s6 c5 f5 kk5 R3 R3d run5 kp5 hq5 r5 hb5 hoff hqn hbn
        go_wp2_with fail
        go_roundw
        case rel => exact ⟨k + 1, m + 8, _, _, by omega, by go_num, hid (by have := HM.out; omega), R5, EH5, LM5, K5, GO5⟩
        case measure => simp [intOf]; omega
    · have hke : k = n := by omega
      subst hke
      have hat : ¬ (m : Int) + 8 ≤ (s.cnt : Int) := by have := HN.out; have := HM.out; omega
      have hm4 : m ≤ 4160 := by have := HN.out; have := HM.out; omega
      go_wp2_with fail
      go_ret2
      exact ⟨KK.out, .inl ⟨GO.out, _, rfl, _, ⟨Lv, rs, RR.out, EH.out.symm, rfl⟩, LM.out⟩⟩
end Go.Proofs.Ytiljhjegfklgmaa
