/- The walks of the laws DiskPlays and DiskCrashes. -/
import Derived.Test.YtofoeemgplggbaaRfM
import Derived.Test.YtofoeemgplggbaaDkN
namespace Go.Proofs.Ytofoeemgplggbaa
open Go.RowKit Go.Shelf
set_option maxRecDepth 100000

theorem pl_new {w1 w2 : World} {p q c : Nat} {F : List Nat} {vf : Nat → Value} {uf : Nat → List Value} (D : DiskAt w1 p (blankS c) F 0) (k : Keeps [] w1 w2) (R : RefIn w2 q (blankS c).ref vf uf) (hR : ∀ b, RB q vf uf b → w1.heap.size ≤ b) :
    PlAt w2 p q (blankS c) (blankS c) F (rbl q vf uf) 0 :=
  ⟨D.keep k (by simp), ⟨_, SameD.refl (by simp [blankS]), vf, uf, R, rfl⟩, fun b hb hg => by
    have := D.lt b hb
    have := hR b ((rbl_iff _ _ _ _).1 hg)
    omega⟩

theorem own_lt {w : World} {v : Value} {ds : List D4} (h : D4sAt w v ds) (hne : 0 < ds.length) : ∀ b, v.ownBlock = some b → b < w.heap.size := by
  obtain ⟨g, off, cap, rfl, _, hc⟩ := h.open hne
  intro b e
  injection e with e
  subst e
  exact World.block_lt_of_cell? _ _ ((hc 0 hne).1 0 _ rfl)

set_option maxHeartbeats 8000000 in
theorem plays_any (W : World) (n : Int) (v : Value) (l : List D4) (hl : D4sAt W v l) :
    Calls Try.prog 3 #[.int .i64 n, v] W fun e w' => e = .returned (.bool true) ∧ Keeps [] W w' := by
  have HL := hid hl
  obtain ⟨la, lcap, rfl, _⟩ := hl
  go_enter Try.func3, Try.ntmps3
  go_wp2_with fail
  refine (awake4_any W).mono ?_
  rintro e w0 ⟨rfl, k0⟩
  have K0 := hid k0
  have L0 := hid (HL.out.keep k0)
  clear k0
  go_wp2_with fail
  refine (room4_any w0 _ l L0.out 200).mono ?_
  rintro e _ ⟨rfl, rfl⟩
  by_cases hl1 : l.length ≤ 200
  · have e1 : decide ((l.length : Int) ≤ 200) = true := by simp; omega
    rw [e1]
    by_cases hn : n > 300
    · go_wp2_with fail
      go_ret
      exact ⟨rfl, K0.out⟩
    · by_cases h2 : n < 2
      · go_wp2_with fail
        refine (newBad_any n (.inl h2) w0).mono ?_
        rintro e _ ⟨rfl, rfl⟩
        go_wp2_with fail
        refine (rnewBad_any n (.inl h2) w0).mono ?_
        rintro e _ ⟨rfl, rfl⟩
        go_wp2_with fail
        go_ret
        exact ⟨rfl, K0.out⟩
      · obtain ⟨c, rfl⟩ := Int.eq_ofNat_of_zero_le (show 0 ≤ n by omega)
        go_wp2_with fail
        refine (newAt_any c (by omega) (by omega) w0).mono ?_
        rintro e w1 ⟨p, F, rfl, D1, l1, k1⟩
        have D1' := hid D1
        have L1 := hid l1
        have K1 := hid k1
        clear D1 l1 k1
        go_wp2_with fail
        refine (rnew_any c (by omega) (by omega) w1).mono ?_
        rintro e w2 ⟨q, vf, uf, rfl, R2, l2, k2⟩
        have K2 := hid k2
        have P2 := hid (pl_new D1'.out k2 R2 l2)
        have L2 : Hid (∀ b ∈ F ++ rbl q vf uf, w0.heap.size ≤ b) := hid (fun b hb => by
          rcases List.mem_append.1 hb with h | h
          · exact L1.out b h
          · have := l2 b ((rbl_iff _ _ _ _).1 h); have := K1.out.size; omega)
        clear R2 l2 k2 L1 D1'
        go_wp2_with fail
        have K02 := hid (K1.out.trans K2.out)
        refine (play_any w2 p q (blankS c) F _ 0 P2.out _ l (L0.out.keep K02.out) (fun h0 b e hm => by have := own_lt L0.out h0 b e; have := L2.out b hm; omega) (by omega)).mono ?_
        rintro e w3 ⟨rfl, s', F', G', P3⟩
        have K3 := hid (K0.out.trans' (K02.out.trans' P3.kp (fun i hi hm => by have := L2.out i hm; omega)) (by simp))
        clear P3
        go_wp2_with fail
        go_ret
        exact ⟨rfl, K3.out⟩
  · have e1 : decide ((l.length : Int) ≤ 200) = false := by simp; omega
    rw [e1]
    go_wp2_with fail
    go_ret
    exact ⟨rfl, K0.out⟩
set_option maxHeartbeats 8000000 in
theorem crashes_any (W : World) (u v x : Value) (l k : List D4) (ch : List Int) (hl : D4sAt W u l) (hc : RowAt W v ch) (hk : D4sAt W x k) :
    Calls Try.prog 4 #[u, v, x] W fun e w' => e = .returned (.bool true) ∧ Keeps [] W w' := by
  have HL := hid hl
  have HR := hid hk
  have HC := hid hc
  obtain ⟨la, lcap, rfl, _⟩ := hl
  obtain ⟨ra, rcap, rfl, _⟩ := hk
  obtain ⟨ca, ccap, rfl, _⟩ := hc
  go_enter Try.func4, Try.ntmps4
  go_wp2_with fail
  refine (awake4_any W).mono ?_
  rintro e w0 ⟨rfl, k0⟩
  have K0 := hid k0
  have L0 := hid (HL.out.keep k0)
  have R0 := hid (HR.out.keep k0)
  have C0 := hid (HC.out.keep k0 (by intro _ _ _ _ _; simp))
  clear k0
  go_wp2_with fail
  refine (room4_any w0 _ l L0.out 120).mono ?_
  rintro e _ ⟨rfl, rfl⟩
  by_cases hl1 : l.length ≤ 120
  · have e1 : decide ((l.length : Int) ≤ 120) = true := by simp; omega
    rw [e1]
    go_wp2_with fail
    refine (room4_any w0 _ k R0.out 60).mono ?_
    rintro e _ ⟨rfl, rfl⟩
    by_cases hk1 : k.length ≤ 60
    · have e2 : decide ((k.length : Int) ≤ 60) = true := by simp; omega
      rw [e2]
      by_cases hn : (ch.length : Int) > 200
      · go_wp2_with fail
        go_ret
        exact ⟨rfl, K0.out⟩
      · have hch : ch.length ≤ 200 := by omega
        go_wp2_with fail
        refine (newAt_any 6 (by omega) (by omega) w0).mono ?_
        rintro e w1 ⟨p, F, rfl, D1, l1, k1⟩
        have D1' := hid D1
        have L1 := hid l1
        have K1 := hid k1
        clear D1 l1 k1
        go_wp2_with fail
        refine (rnew_any 6 (by omega) (by omega) w1).mono ?_
        rintro e w2 ⟨q, vf, uf, rfl, R2, l2, k2⟩
        have K2 := hid k2
        have P2 := hid (pl_new D1'.out k2 R2 l2)
        have L2 : Hid (∀ b ∈ F ++ rbl q vf uf, w0.heap.size ≤ b) := hid (fun b hb => by
          rcases List.mem_append.1 hb with h | h
          · exact L1.out b h
          · have := l2 b ((rbl_iff _ _ _ _).1 h); have := K1.out.size; omega)
        clear R2 l2 k2 L1 D1'
        go_wp2_with fail
        have K02 := hid (K1.out.trans K2.out)
        refine (play_any w2 p q (blankS 6) F _ 0 P2.out _ l (L0.out.keep K02.out) (fun h0 b e hm => by have := own_lt L0.out h0 b e; have := L2.out b hm; omega) (by omega)).mono ?_
        rintro e w3 ⟨rfl, s', F', G', P3⟩
        have PP := hid P3
        have K3 := hid (K02.out.trans' P3.kp (fun i hi hm => by have := L2.out i hm; omega))
        have L3 : Hid (∀ b ∈ F' ++ G', w0.heap.size ≤ b) := hid (fun b hb => by
          have h2 := K02.out.size
          rcases List.mem_append.1 hb with h | h
          · rcases P3.fF b h with h | h
            · exact L2.out b (List.mem_append.2 (.inl h))
            · omega
          · rcases P3.fG b h with h | h
            · exact L2.out b (List.mem_append.2 (.inr h))
            · omega)
        clear P3 P2 L2 K02 K1 K2
        go_wp2_with fail
        refine (crash_any w3 p s' F' _ PP.out.at_.d (by omega) _ ch (by omega) (C0.out.keep K3.out (by intro _ _ _ _ _; simp))).mono ?_
        rintro e w4 ⟨pc, Fc, rfl, Dc, lc, kc⟩
        have P4 := hid (PP.out.keep kc)
        have K4 := hid (K3.out.trans kc)
        have DC := hid Dc
        have LC := hid lc
        have KC := hid kc
        clear Dc lc kc
        go_wp2_with fail
        refine (rc_any w4 q s' G' P4.out.at_.r _ P4.out.at_.d.1 (by have := P4.out.loose; omega) _ ch (C0.out.keep K4.out (by intro _ _ _ _ _; simp))).mono ?_
        rintro e w5 ⟨qc, Gc, rfl, Rc, lg, kg⟩
        have P5 := hid (P4.out.keep kg)
        have K5 := hid (K4.out.trans kg)
        have X5 := hid (show PlAt w5 pc qc (s'.crashed ch) (s'.crashed ch) Fc Gc _ from ⟨DC.out.keep kg (by simp), Rc, fun b hb hg => by
          have := DC.out.lt b hb
          have := lg b hg
          omega⟩)
        have L5 : Hid (∀ b ∈ Fc ++ Gc, w3.heap.size ≤ b) := hid (fun b hb => by
          rcases List.mem_append.1 hb with h | h
          · exact LC.out b h
          · have := lg b h; have := KC.out.size; omega)
        have LT3 : Hid (∀ b ∈ F' ++ G', b < w3.heap.size) := hid (fun b hb => by
          rcases List.mem_append.1 hb with h | h
          · exact PP.out.at_.d.lt b h
          · exact PP.out.at_.r.lt b h)
        clear Rc lg kg P4 K4 DC LC KC PP
        go_wp2_with fail
        have Z3 := K3.out.size
        refine (play_any w5 pc qc (s'.crashed ch) Fc Gc _ X5.out _ k (R0.out.keep K5.out) (fun h0 b e hm => by have := own_lt R0.out h0 b e; have := L5.out b hm; omega) (by omega)).mono ?_
        rintro e w6 ⟨rfl, s2, F2, G2, P6⟩
        have K6 := hid (K5.out.trans' P6.kp (fun i hi hm => by have := L5.out i hm; omega))
        have d6 := P5.out.at_.d.keep P6.kp (fun b hb hm => by have := LT3.out b (List.mem_append.2 (.inl hb)); have := L5.out b hm; omega)
        have r6 := P5.out.at_.r.keep P6.kp (fun b hb hm => by have := LT3.out b (List.mem_append.2 (.inr hb)); have := L5.out b hm; omega)
        have D6 := hid d6
        have R6 := hid r6
        clear P6 d6 r6 P5 X5 L5 K5 LT3 L3
        go_wp2_with fail
        have hcnt := D6.out.1.hi
        have hIL : (imageL s'.now s'.cnt).length ≤ 1000000 := by rw [imageL_len]; omega
        have hc6 := R6.out.cells.2.1
        refine wp_region_noPanic (wp_region_any (by kernel_rfl) (wpAny_of_held (S := KpS [] w6.heap.size w6.drew) _ _ _ _ ?_))
        have kd : ∀ W1, KpS [] w6.heap.size w6.drew W1 → Keeps [] w6 W1 := fun W1 h => ⟨h.os, h.tape, h.output, h.size, fun k hk hs => h.block k hk hs⟩
        refine held_take (i := 0) (v := .pointer (some ⟨p, 0, none⟩)) rfl (by kernel_rfl) (by kernel_rfl) (by kernel_rfl) (fun _ _ _ h => h) rfl (fun W1 hW1 => rfl) (KpS.refl _ _ _) ?_
        simp only [Act.put, List.setIfInBounds_toArray, List.set_cons_zero, List.set_cons_succ]
        refine held_take (i := 2) (v := .pointer (some ⟨q, 0, none⟩)) rfl (by kernel_rfl) (by kernel_rfl) (by kernel_rfl) (fun _ _ _ h => h) rfl (fun W1 hW1 => rfl) (KpS.refl _ _ _) ?_
        simp only [Act.put, List.setIfInBounds_toArray, List.set_cons_zero, List.set_cons_succ]
        have Dd := D6.out.keep (kd _ (KpS.refl _ _ _)) (by simp)
        have Rd := R6.out.keep (kd _ (KpS.refl _ _ _)) (by simp)
        refine held_do (i := 1) (by kernel_rfl) rfl rfl (wp_enter (f := 13) (args := #[.pointer (some ⟨p, 0, none⟩)]) (by go_simp) (imageAt_any w6.drew p s' F' _ Dd) ?_)
        rintro e Wa ⟨xv, rfl, rx, _, ka⟩
        have kp1 : KpS [] w6.heap.size w6.drew Wa := (KpS.refl _ _ _).keeps ka (Nat.le_refl _) (by simp)
        refine ⟨_, rfl, kp1, ?_⟩
        simp only [Act.put, List.setIfInBounds_toArray, List.set_cons_zero, List.set_cons_succ]
        refine held_do (i := 3) (by kernel_rfl) rfl rfl (wp_enter (f := 14) (args := #[.pointer (some ⟨q, 0, none⟩)]) (by go_simp) (ri_any Wa q s' G' (Rd.keep ka (by simp)) _ Dd.1) ?_)
        rintro e Wb ⟨yv, rfl, ry, kb⟩
        have kp2 : KpS [] w6.heap.size w6.drew Wb := kp1.keeps kb kp1.size (by simp)
        refine ⟨_, rfl, kp2, ?_⟩
        simp only [Act.put, List.setIfInBounds_toArray, List.set_cons_zero, List.set_cons_succ]
        have rx2 := rx.keep kb (by intro _ _ _ _ _; simp)
        refine held_do (i := 4) (by kernel_rfl) rfl rfl (wp_enter (f := 12) (args := #[xv, yv]) (by go_simp) (same_true Wb xv yv _ rx2 ry hIL) ?_)
        rintro e Wc ⟨rfl, kc⟩
        have kp3 : KpS [] w6.heap.size w6.drew Wc := kp2.keeps kc kp2.size (by simp)
        refine ⟨_, rfl, kp3, ?_⟩
        simp only [Act.put, List.setIfInBounds_toArray, List.set_cons_zero, List.set_cons_succ]
        have Dc := D6.out.keep (kd Wc kp3) (by simp)
        refine held_take (i := 5) (v := .bool true) rfl (by kernel_rfl) (by kernel_rfl) (by kernel_rfl) (fun _ _ _ h => h) rfl (fun W1 hW1 => rfl) (kp3) ?_
        simp only [Act.put, List.setIfInBounds_toArray, List.set_cons_zero, List.set_cons_succ]
        refine held_takeWD (i := 6) (v := .pointer (some ⟨p, 0, none⟩)) rfl (by kernel_rfl) (by kernel_rfl) (by kernel_rfl) (fun _ _ _ h => h) rfl (fun W1 hW1 => rfl) (kp3) ?_
        simp only [Act.put, List.setIfInBounds_toArray, List.set_cons_zero, List.set_cons_succ]
        refine held_takeWD (i := 8) (v := .pointer (some ⟨q, 0, none⟩)) rfl (by kernel_rfl) (by kernel_rfl) (by kernel_rfl) (fun _ _ _ h => h) rfl (fun W1 hW1 => rfl) (kp3) ?_
        simp only [Act.put, List.setIfInBounds_toArray, List.set_cons_zero, List.set_cons_succ]
        refine held_takeWD (i := 9) (v := .pointer (some ⟨q, 0, none⟩)) rfl (by kernel_rfl) (by kernel_rfl) (by kernel_rfl) (fun _ _ _ h => h) rfl (fun W1 hW1 => by go_simp) (kp3) ?_
        simp only [Act.put, List.setIfInBounds_toArray, List.set_cons_zero, List.set_cons_succ]
        refine held_takeWD (i := 10) (v := .pointer (some ⟨q, 6, none⟩)) rfl (by kernel_rfl) (by kernel_rfl) (by kernel_rfl) (fun _ _ _ h => h) rfl (fun W1 hW1 => by go_simp) (kp3) ?_
        simp only [Act.put, List.setIfInBounds_toArray, List.set_cons_zero, List.set_cons_succ]
        refine held_takeWD (i := 11) (v := .bool s'.dead) rfl (by kernel_rfl) (by kernel_rfl) (by kernel_rfl) (fun _ _ _ h => h) rfl (fun W1 hW1 => exec_load _ _ _ _ rfl rfl (run_loadCell W1 _ _ _ (keeps_cell4 (kd W1 hW1) hc6 (by simp)) (agg_no _ (by kernel_rfl)))) (kp3) ?_
        simp only [Act.put, List.setIfInBounds_toArray, List.set_cons_zero, List.set_cons_succ]
        refine held_doWD (i := 7) (by kernel_rfl) rfl rfl (wp_enter (f := 15) (args := #[.pointer (some ⟨p, 0, none⟩)]) (by go_simp) (deadAt_any Wc p s' F' _ Dc) ?_)
        rintro e _ ⟨rfl, rfl⟩
        refine ⟨_, rfl, kp3, ?_⟩
        simp only [Act.put, List.setIfInBounds_toArray, List.set_cons_zero, List.set_cons_succ]
        refine held_takeWD (i := 12) (v := .bool true) rfl (by kernel_rfl) (by kernel_rfl) (by kernel_rfl) (fun _ _ _ h => h) rfl (fun W1 hW1 => by go_simp) (kp3) ?_
        simp only [Act.put, List.setIfInBounds_toArray, List.set_cons_zero, List.set_cons_succ]
        refine held_take (i := 13) (v := .bool true) rfl (by kernel_rfl) (by kernel_rfl) (by kernel_rfl) (fun _ _ _ h => h) rfl (fun W1 hW1 => by go_simp) (kp3) ?_
        simp only [Act.put, List.setIfInBounds_toArray, List.set_cons_zero, List.set_cons_succ]
        refine held_take (i := 14) (v := .bool true) rfl (by kernel_rfl) (by kernel_rfl) (by kernel_rfl) (fun _ _ _ h => h) rfl (fun W1 hW1 => rfl) (kp3) ?_
        simp only [Act.put, List.setIfInBounds_toArray, List.set_cons_zero, List.set_cons_succ]
        refine wpAnyH_done (by kernel_rfl) (NoPanic.normal ?_) _
        have K9 := hid ((K0.out.trans K6.out).trans (kd Wc kp3))
        clear kp1 kp2 kp3 ka kb kc rx ry rx2 kd Dd Rd Dc
        go_wp2_with fail
        go_ret
        exact ⟨rfl, K9.out⟩
    · have e2 : decide ((k.length : Int) ≤ 60) = false := by simp; omega
      rw [e2]
      go_wp2_with fail
      go_ret
      exact ⟨rfl, K0.out⟩
  · have e1 : decide ((l.length : Int) ≤ 120) = false := by simp; omega
    rw [e1]
    go_wp2_with fail
    go_ret
    exact ⟨rfl, K0.out⟩
end Go.Proofs.Ytofoeemgplggbaa
