/- layout: the walk of the law LayoutUnlike. -/
import Derived.Test.YtoglcohdanpciaaLyJ7
namespace Go.Proofs.Ytoglcohdanpciaa
open Go.RowKit Go.Shelf
set_option maxRecDepth 100000
set_option linter.unusedSimpArgs false
set_option linter.unusedVariables false

theorem row_shape {w : World} {v : Value} {zs : List Int} (h : RowAt w v zs) : ∃ a c, v = .slice a zs.length c := by
  obtain ⟨a, c, e, _⟩ := h
  exact ⟨a, c, e⟩
theorem spe_bin (s t : Spe) (w : World) : (binOp .eql 30 (.agg #[.int .i64 s.c, .int .i64 s.l, .int .i64 s.n]) (.agg #[.int .i64 t.c, .int .i64 t.l, .int .i64 t.n])).run Try.prog w = .ok (.bool (decide (s = t))) w := by
  have := speEqIn 9998 s t w
  unfold speV at this
  rw [run_eql_struct, this, spe_is]; rfl
theorem spe_neq (s t : Spe) (w : World) : (binOp .neq 30 (.agg #[.int .i64 s.c, .int .i64 s.l, .int .i64 s.n]) (.agg #[.int .i64 t.c, .int .i64 t.l, .int .i64 t.n])).run Try.prog w = .ok (.bool (!decide (s = t))) w := by
  have := speEqIn 9998 s t w
  unfold speV at this
  rw [run_neq_struct, this, spe_is]; rfl
set_option maxHeartbeats 25600000 in
theorem yUnlike_any (w : World) (m m2 : Int) (hm : -9223372036854775808 ≤ m ∧ m ≤ 9223372036854775807) (hm2 : -9223372036854775808 ≤ m2 ∧ m2 ≤ 9223372036854775807) (v : Value) (d : List Int) (hd : RowAt w v d) (hl : d.length ≤ 140737488351232) :
    Calls Try.prog 10 #[.int .i64 m, .int .i64 m2, v] w fun e w' => e = .returned (.bool true) ∧ Keeps [] w w' := by
  obtain ⟨va, vc, rfl, _⟩ := id hd
  have HD := hid hd
  obtain ⟨n, hn⟩ : ∃ n : Nat, 3 + m % 14 = (n : Int) := ⟨(3 + m % 14).toNat, by omega⟩
  have n3 : 3 ≤ n := by omega
  have n16 : n ≤ 16 := by omega
  have MAY := hid (speM_may m).1
  have MAY2 := hid (speM_may m2).1
  have SM := hid (fun W => yStripe_any W m hm)
  have SM2 := hid (fun W => yStripe_any W m2 hm2)
  have SV := hid (fun W => yServers_any W m)
  obtain ⟨s, hs⟩ : ∃ s, s = speM m := ⟨_, rfl⟩
  rw [← hs] at SM MAY
  obtain ⟨t, ht⟩ : ∃ t, t = speM m2 := ⟨_, rfl⟩
  rw [← ht] at SM2 MAY2
  rw [hn] at SV
  have A1 := hid (yAwake_any w)
  clear hn hm hm2 hs ht hd
  go_enter Try.func10, Try.ntmps10
  go_wp2_with fail
  refine A1.out.mono ?_
  clear A1
  rintro e w1 ⟨rfl, k1⟩
  have K1 := hid k1
  have HD1 := hid (HD.out.keep k1 (by intro _ _ _ _ _; simp))
  clear k1 HD
  go_wp2_with fail
  refine (SV.out w1).mono ?_
  clear SV
  rintro e w2 ⟨rfl, rfl⟩
  go_wp2_with fail
  refine (SM.out w1).mono ?_
  clear SM
  rintro e w2 ⟨rfl, k2⟩
  have K2 := hid (K1.out.trans k2)
  have HD2 := hid (HD1.out.keep k2 (by intro _ _ _ _ _; simp))
  clear k2 K1 HD1
  unfold speV
  go_wp2_with fail
  refine (SM2.out w2).mono ?_
  clear SM2
  rintro e w3 ⟨rfl, k3⟩
  have K3 := hid (K2.out.trans k3)
  have HD3 := hid (HD2.out.keep k3 (by intro _ _ _ _ _; simp))
  clear k3 K2 HD2
  unfold speV
  by_cases hbig : 400 < d.length
  · clear hl
    go_wp2_with fail
    go_ret
    exact ⟨rfl, (K3.out.alloc _).alloc _⟩
  obtain ⟨w4, hw4⟩ : ∃ x, x = (w3.alloc (.cells #[.int .i64 s.c, .int .i64 s.l, .int .i64 s.n] 30)).alloc (.cells #[.int .i64 t.c, .int .i64 t.l, .int .i64 t.n] 30) := ⟨_, rfl⟩
  have HW4 := hid hw4
  have ka : Keeps [] w3 (w3.alloc (.cells #[.int .i64 s.c, .int .i64 s.l, .int .i64 s.n] 30)) := (Keeps.refl [] _).alloc _
  have k4 : Keeps [] w3 w4 := by rw [hw4]; exact ka.alloc _
  have b1 : w4.heap[w3.heap.size]? = some (.cells #[.int .i64 s.c, .int .i64 s.l, .int .i64 s.n] 30 (0, 0)) := by
    rw [hw4]
    exact (((Keeps.refl [] _).alloc _).block w3.heap.size (by simp) (by simp)).trans (heap_alloc_new w3 _)
  have b2 : w4.heap[w3.heap.size + 1]? = some (.cells #[.int .i64 t.c, .int .i64 t.l, .int .i64 t.n] 30 (0, 0)) := by
    rw [hw4]
    have := heap_alloc_new (w3.alloc (.cells #[.int .i64 s.c, .int .i64 s.l, .int .i64 s.n] 30)) (.cells #[.int .i64 t.c, .int .i64 t.l, .int .i64 t.n] 30)
    rw [World.size_alloc] at this
    exact this
  have G1 := hid (show w4.rangeAt w3.heap.size 0 s.cells from range_cells b1)
  have G2 := hid (show w4.rangeAt (w3.heap.size + 1) 0 t.cells from range_cells b2)
  have K4 := hid (K3.out.trans k4)
  have HD4 := hid (HD3.out.keep k4 (by intro _ _ _ _ _; simp))
  have hMOST := hid (show d.length ≤ 400 * (n - 1) by omega)
  have hDL := hid (show d.length ≤ 400 by omega)
  have HC0 := lCut_any w4 s _ d n HD4.out (by omega)
  rw [cut_ok MAY.out n3 n16 hMOST.out] at HC0
  have HC := hid HC0
  have fl := fragsL_len s d n
  have ol := fragsL_len t d n
  obtain ⟨F, hF⟩ : ∃ F, F = fragsL s d n := ⟨_, rfl⟩
  rw [← hF] at HC fl
  have HF := hid hF
  obtain ⟨O, hO⟩ : ∃ O, O = fragsL t d n := ⟨_, rfl⟩
  rw [← hO] at ol
  have HO := hid hO
  have DB := hid HD4.out.bytes
  clear hw4 ka k4 b1 b2 K3 HD3 HC0 hF hO
  go_wp2_with (first | (refine wpList_isW rfl _ _ (exec_load _ _ _ _ rfl rfl (loadSpe _ w3.heap.size 0 s (by rw [← HW4.out]; exact G1.out))) ?_) | fail)
  rw [← HW4.out]
  refine HC.out.mono ?_
  clear HC
  rintro e w5 ⟨k5, hx⟩
  rcases hx with ⟨h0, _⟩ | ⟨-, g, vs, rfl, hbk, hh, hg⟩
  · exact absurd rfl h0
  have K5 := hid (K4.out.trans k5)
  have HD5 := hid (HD4.out.keep k5 (by intro _ _ _ _ _; simp))
  have G15 := hid (show w5.rangeAt w3.heap.size 0 s.cells from fun i u hu => k5.cell (G1.out i u hu) (by simp))
  have G25 := hid (show w5.rangeAt (w3.heap.size + 1) 0 t.cells from fun i u hu => k5.cell (G2.out i u hu) (by simp))
  have HB := hid hbk
  have HH := hid hh
  have VL := hid (show vs.length = n from (show vs.length = F.length from hh.len).trans fl)
  simp only [fl]
  have HC0 := lCut_any w5 t _ d n HD5.out (by omega)
  rw [cut_ok MAY2.out n3 n16 hMOST.out, ← HO.out] at HC0
  have HC := hid HC0
  clear k5 hbk hh hg K4 HD4 G1 G2 HC0 HW4
  go_wp2_with (first | (refine wpList_isW rfl _ _ (exec_load _ _ _ _ rfl rfl (loadSpe _ (w3.heap.size + 1) 0 t G25.out)) ?_) | fail)
  refine HC.out.mono ?_
  clear HC
  rintro e w6 ⟨k6, hx⟩
  rcases hx with ⟨h0, _⟩ | ⟨-, o, us, rfl, hbk, hh, hg⟩
  · exact absurd rfl h0
  simp only [ol]
  have K6 := hid (K5.out.trans k6)
  have HD6 := hid (HD5.out.keep k6 (by intro _ _ _ _ _; simp))
  have G16 := hid (show w6.rangeAt w3.heap.size 0 s.cells from fun i u hu => k6.cell (G15.out i u hu) (by simp))
  have G26 := hid (show w6.rangeAt (w3.heap.size + 1) 0 t.cells from fun i u hu => k6.cell (G25.out i u hu) (by simp))
  have HB6 := hid ((k6.block g (lt_of_block HB.out) (by simp)).trans HB.out)
  have ROW := hid (show ∀ j (h : j < vs.length), RowAt w6 vs[j] (F.getD j []) from fun j h => (HH.out.row j h).keep k6 (by intro _ _ _ _ _; simp))
  have OB6 := hid hbk
  have UL := hid (show us.length = n from (show us.length = O.length from hh.len).trans ol)
  have OROW := hid (show ∀ j (h : j < us.length), RowAt w6 us[j] (O.getD j []) from fun j h => hh.row j h)
  have SL := hid HH.out.slices
  have FW := hid HH.out.few
  have LF := hid fl
  obtain ⟨p1, hp1⟩ : ∃ x, x = w3.heap.size := ⟨_, rfl⟩
  rw [← hp1] at G16 G26 ⊢
  clear k6 hbk hh hg K5 HD5 G15 G25 HB HH hp1
  have LFo := hid ol
  have FS := hid (show ∀ l ∈ F, l.length ≤ 412 from fun l hl' => by
    obtain ⟨k, hk, rfl⟩ := mem_getD hl'
    rw [fl] at hk
    rw [HF.out]
    exact frag_len n3 hk hMOST.out)
  have OS := hid (show ∀ l ∈ O, l.length ≤ 412 from fun l hl' => by
    obtain ⟨k, hk, rfl⟩ := mem_getD hl'
    rw [ol] at hk
    rw [HO.out]
    exact frag_len n3 hk hMOST.out)
  have GETD := hid (show ∀ (L : List (List Int)) k, L.length = n → (∀ l ∈ L, l.length ≤ 412) → (L.getD k []).length ≤ 412 from fun L k hL hle => by
    rw [List.getD_eq_getElem?_getD]
    by_cases hk : k < L.length
    · rw [List.getElem?_eq_getElem hk]; exact hle _ (List.getElem_mem hk)
    · rw [List.getElem?_eq_none (by omega)]; simp)
  obtain ⟨st, hst⟩ : ∃ b : Bool, b = decide (s = t) := ⟨_, rfl⟩
  have HST := hid hst
  have hbin := fun W => spe_bin s t W
  rw [← hst] at hbin
  have HBIN := hid hbin
  -- what is the same as what
  have EQ1 := hid (show ∀ i j, i < n → j < n → decide (F.getD i [] = F.getD j []) = decide (i = j) from fun i j hi hj => by
    rw [Bool.eq_iff_iff, decide_eq_true_iff, decide_eq_true_iff]
    exact ⟨fun h => (frag_inj MAY.out n3 n16 hMOST.out MAY.out hi hj (by rw [← HF.out]; exact h)).1, fun h => by rw [h]⟩)
  have EQ2 := hid (show ∀ i j, i < n → j < n → decide (F.getD i [] = O.getD j []) = (decide (i = j) && st) from fun i j hi hj => by
    rw [HST.out, Bool.eq_iff_iff, Bool.and_eq_true, decide_eq_true_iff, decide_eq_true_iff, decide_eq_true_iff]
    exact ⟨fun h => frag_inj MAY.out n3 n16 hMOST.out MAY2.out hi hj (by rw [← HF.out, ← HO.out]; exact h), fun h => by rw [h.1, HF.out, HO.out, h.2]⟩)
  clear hst hbin hbig hl fl ol
  obtain ⟨i0, hi0, hz0, hz1, hz2⟩ := info_parts info25
  have I0 := hid hi0
  have Z0 := hid hz0
  have Z1 := hid hz1
  have Z2 := hid hz2
  clear hi0 hz0 hz1 hz2
  go_wp2_with fail
  go_loopw [14] (fun iv wr => ∃ (i : Nat), i ≤ n ∧ iv = .int .i64 (i : Int) ∧ Hid (Keeps [] w6 wr)) (fun iv _ => n - (intOf iv).toNat)
  case atStart => exact ⟨0, by omega, rfl, hid (Keeps.refl _ _)⟩
  case round =>
    obtain ⟨i, hi, rfl, HK⟩ := hrel
    by_cases hlt : i < n
    · go_wp2_with fail
      go_loopw [15] (fun iv wr => ∃ (j : Nat), j ≤ n ∧ iv = .int .i64 (j : Int) ∧ Hid (Keeps [] w6 wr)) (fun iv _ => n - (intOf iv).toNat)
      case atStart => exact ⟨0, by omega, rfl, HK⟩
      case round =>
        clear HK
        obtain ⟨j, hj, rfl, HK⟩ := hrel
        by_cases hltj : j < n
        · have hvi : i < vs.length := by rw [VL.out]; exact hlt
          have hvj : j < vs.length := by rw [VL.out]; exact hltj
          have huj : j < us.length := by rw [UL.out]; exact hltj
          obtain ⟨a1, e1, hu1⟩ := row_shape (ROW.out i hvi)
          obtain ⟨a2, e2, hu2⟩ := row_shape (ROW.out j hvj)
          obtain ⟨a3, e3, hu3⟩ := row_shape (OROW.out j huj)
          have r1 := (ROW.out i hvi).keep HK.out (by intro _ _ _ _ _; simp)
          have r2 := (ROW.out j hvj).keep HK.out (by intro _ _ _ _ _; simp)
          have r3 := (OROW.out j huj).keep HK.out (by intro _ _ _ _ _; simp)
          have d1 := HK.out.cell (S := []) (a := ⟨g, i, none⟩) (v := vs[i]) (by rw [(five_cells HB6.out i).1, List.getElem?_toArray, List.getElem?_eq_getElem hvi]) (by simp)
          have d2 := HK.out.cell (S := []) (a := ⟨g, j, none⟩) (v := vs[j]) (by rw [(five_cells HB6.out j).1, List.getElem?_toArray, List.getElem?_eq_getElem hvj]) (by simp)
          have d3 := HK.out.cell (S := []) (a := ⟨o, j, none⟩) (v := us[j]) (by rw [(five_cells OB6.out j).1, List.getElem?_toArray, List.getElem?_eq_getElem huj]) (by simp)
          rw [hu1] at r1 d1
          rw [hu2] at r2 d2
          rw [hu3] at r3 d3
          have l1 := GETD.out F i LF.out FS.out
          have l2 := GETD.out F j LF.out FS.out
          have l3 := GETD.out O j LFo.out OS.out
          have q1 := EQ1.out i j hlt hltj
          have q2 := EQ2.out i j hlt hltj
          have SMQ1 : Hid (∀ k, Calls Try.prog 29 #[.slice a1 (F.getD i []).length e1, .slice a2 (F.getD j []).length e2] (wr.drewN k) fun e w'' => e = .returned (.bool (decide (i = j))) ∧ ∃ m', w'' = wr.drewN m') := hid fun k => by
            have kk := (Keeps.refl [] wr).drewN k
            refine (same_any _ _ _ _ _ (r1.keep kk (by intro _ _ _ _ _; simp)) (r2.keep kk (by intro _ _ _ _ _; simp)) (by omega) (by omega)).mono ?_
            rintro e w' ⟨rfl, x, rfl⟩
            exact ⟨by rw [q1], k + x, by rw [World.drewN_drewN]⟩
          have SMQ2 : Hid (∀ k, Calls Try.prog 29 #[.slice a1 (F.getD i []).length e1, .slice a3 (O.getD j []).length e3] (wr.drewN k) fun e w'' => e = .returned (.bool (decide (i = j) && st)) ∧ ∃ m', w'' = wr.drewN m') := hid fun k => by
            have kk := (Keeps.refl [] wr).drewN k
            refine (same_any _ _ _ _ _ (r1.keep kk (by intro _ _ _ _ _; simp)) (r3.keep kk (by intro _ _ _ _ _; simp)) (by omega) (by omega)).mono ?_
            rintro e w' ⟨rfl, x, rfl⟩
            exact ⟨by rw [q2], k + x, by rw [World.drewN_drewN]⟩
          have s0 := HK.out.cell (G16.out 0 _ rfl) (by simp)
          have s1 := HK.out.cell (G16.out 1 _ rfl) (by simp)
          have s2 := HK.out.cell (G16.out 2 _ rfl) (by simp)
          have t0 := HK.out.cell (G26.out 0 _ rfl) (by simp)
          have t1 := HK.out.cell (G26.out 1 _ rfl) (by simp)
          have t2 := HK.out.cell (G26.out 2 _ rfl) (by simp)
          rw [Nat.zero_add] at s0 s1 s2 t0 t1 t2
          obtain ⟨x1, hx1⟩ : ∃ x, x = F.getD i [] := ⟨_, rfl⟩
          obtain ⟨x2, hx2⟩ : ∃ x, x = F.getD j [] := ⟨_, rfl⟩
          obtain ⟨x3, hx3⟩ : ∃ x, x = O.getD j [] := ⟨_, rfl⟩
          rw [← hx1] at d1 SMQ1 SMQ2
          rw [← hx2] at d2 SMQ1
          rw [← hx3] at d3 SMQ2
          clear hx1 hx2 hx3 r1 r2 r3 hu1 hu2 hu3 l1 l2 l3 q1 q2
          have hb1 := HBIN.out
          have hg1 := fun W x y => guardSpe W .eql x y s t
          unfold speV at hg1
          by_cases hij : i = j
          · have hijb : ((i : Int) == (j : Int)) = true := by rw [hij]; exact beq_self_eq_true _
            rw [decide_eq_true hij] at SMQ1 SMQ2
            rw [Bool.true_and] at SMQ2
            clear hij
            go_wp2_with fail
            have SMQ : Hid (∀ k u b, ((u = .slice a2 x2.length e2 ∧ b = true) ∨ (u = .slice a3 x3.length e3 ∧ b = st)) → Calls Try.prog 29 #[.slice a1 x1.length e1, u] (wr.drewN k) fun e w'' => e = .returned (.bool b) ∧ ∃ m', w'' = wr.drewN m') := hid (fun k u b h => by rcases h with ⟨rfl, rfl⟩ | ⟨rfl, rfl⟩; exact SMQ1.out k; exact SMQ2.out k)
            clear SMQ1 SMQ2
            go_quiet ((go_at_call 29; exact SMQ.out _ _ _ (by first | exact .inl ⟨rfl, rfl⟩ | exact .inr ⟨rfl, rfl⟩)))
            go_wp2_with fail
            go_roundw
            case rel => exact ⟨j + 1, by omega, by go_num, hid (HK.out.drewN nq)⟩
            case measure => simp [intOf]; omega
          · have hijb : ((i : Int) == (j : Int)) = false := by rw [beq_eq_false_iff_ne]; omega
            rw [decide_eq_false hij] at SMQ1 SMQ2
            rw [Bool.false_and] at SMQ2
            clear hij
            go_wp2_with fail
            clear hb1 hg1 s0 s1 s2 t0 t1 t2
            have SMQ : Hid (∀ k u b, ((u = .slice a2 x2.length e2 ∧ b = false) ∨ (u = .slice a3 x3.length e3 ∧ b = false)) → Calls Try.prog 29 #[.slice a1 x1.length e1, u] (wr.drewN k) fun e w'' => e = .returned (.bool b) ∧ ∃ m', w'' = wr.drewN m') := hid (fun k u b h => by rcases h with ⟨rfl, rfl⟩ | ⟨rfl, rfl⟩; exact SMQ1.out k; exact SMQ2.out k)
            clear SMQ1 SMQ2
            go_quiet ((go_at_call 29; exact SMQ.out _ _ _ (by first | exact .inl ⟨rfl, rfl⟩ | exact .inr ⟨rfl, rfl⟩)))
            go_wp2_with fail
            go_roundw
            case rel => exact ⟨j + 1, by omega, by go_num, hid (HK.out.drewN nq)⟩
            case measure => simp [intOf]; omega
        · have hjn : n = j := by omega
          subst hjn
          go_wp2_with fail
          go_roundw
          case rel => exact ⟨i + 1, by omega, by go_num, HK⟩
          case measure => simp [intOf]; omega
    · have hin : n = i := by omega
      subst hin
      have hv1 : 1 < vs.length := by rw [VL.out]; omega
      have hu0 : 0 < us.length := by rw [UL.out]; omega
      obtain ⟨a1, e1, hs1⟩ := row_shape (ROW.out 1 hv1)
      obtain ⟨a3, e3, hs3⟩ := row_shape (OROW.out 0 hu0)
      have r1 := (ROW.out 1 hv1).keep HK.out (by intro _ _ _ _ _; simp)
      have r3 := (OROW.out 0 hu0).keep HK.out (by intro _ _ _ _ _; simp)
      have d1 := HK.out.cell (S := []) (a := ⟨g, 1, none⟩) (v := vs[1]) (by rw [(five_cells HB6.out 1).1, List.getElem?_toArray, List.getElem?_eq_getElem hv1]) (by simp)
      have d3 := HK.out.cell (S := []) (a := ⟨o, 0, none⟩) (v := us[0]) (by rw [(five_cells OB6.out 0).1, List.getElem?_toArray, List.getElem?_eq_getElem hu0]) (by simp)
      rw [hs1] at r1 d1
      rw [hs3] at r3 d3
      have CS := hid (copy_src wr ((HK.out.block g (lt_of_block HB6.out) (by simp)).trans HB6.out) VL.out SL.out)
      have S4 := hid (show ∀ j (h : j < vs.length), RowAt wr vs[j] (F.getD j []) from fun j h => (ROW.out j h).keep HK.out (by intro _ _ _ _ _; simp))
      have S2 := hid (show wr.rangeAt p1 0 s.cells from fun i u hu => HK.out.cell (G16.out i u hu) (by simp))
      have T2 := hid (show wr.rangeAt (p1 + 1) 0 t.cells from fun i u hu => HK.out.cell (G26.out i u hu) (by simp))
      have l1 := GETD.out F 1 LF.out FS.out
      have l3 := GETD.out O 0 LFo.out OS.out
      have j1 : joinL s (F.set 0 (F.getD 1 [])) n = ([], 4) := by
        have hg : (F.set 0 (F.getD 1 [])).getD 0 [] = F.getD 1 [] := by rw [getD_set13 (by rw [LF.out]; omega), if_pos rfl]
        refine join_bad n3 n16 (by rw [List.length_set]; exact LF.out) (by rw [hg, HF.out]; exact frag_ne (by omega)) (.inr ?_)
        rw [hg, HF.out, frag_read MAY.out n3 n16 (by omega) hMOST.out]
        simp
      have j2 : joinL s ((F.set 0 (F.getD 1 [])).set 0 (O.getD 0 [])) n = if st = true then (d, 0) else ([], 4) := by
        rw [List.set_set]
        by_cases he : s = t
        · rw [if_pos (by rw [HST.out]; exact decide_eq_true he)]
          have hOF : O = F := by rw [HO.out, HF.out, he]
          have hset : F.set 0 (O.getD 0 []) = F := by
            rw [hOF]
            apply List.ext_getElem
            · simp
            · intro k h1 h2
              rw [List.getElem_set]
              split
              · rename_i e
                subst e
                rw [List.getD_eq_getElem?_getD, List.getElem?_eq_getElem h2]
                rfl
              · rfl
          rw [hset, HF.out, join_all MAY.out n3 n16 hMOST.out DB.out]
        · rw [if_neg (by rw [HST.out]; simp [he])]
          have hg : (F.set 0 (O.getD 0 [])).getD 0 [] = O.getD 0 [] := by rw [getD_set13 (by rw [LF.out]; omega), if_pos rfl]
          refine join_bad n3 n16 (by rw [List.length_set]; exact LF.out) (by rw [hg, HO.out]; exact frag_ne (by omega)) (.inl ?_)
          rw [hg, HO.out, frag_read MAY2.out n3 n16 (by omega) hMOST.out]
          exact fun h => he h.symm
      have J1 := hid j1
      have J2 := hid j2
      obtain ⟨x1, hx1⟩ : ∃ x, x = F.getD 1 [] := ⟨_, rfl⟩
      obtain ⟨x3, hx3⟩ : ∃ x, x = O.getD 0 [] := ⟨_, rfl⟩
      rw [← hx1] at d1 r1 l1 J1 J2
      rw [← hx3] at d3 r3 l3 J2
      have R1 := hid r1
      have R3 := hid r3
      have D3 := hid d3
      clear hx1 hx3 hs1 hs3 r1 r3 j1 j2
      go_wp2_with (first | ((at_builtin; refine wpList_append_src rfl (.tmp 107) (.tmp 108) 26 rfl wr.heap.size 34 i0 (.slice none 0 0) 24 Try.underlying26 I0.out Z0.out Z1.out Z2.out rfl (.slice (some ⟨wr.heap.size, 0, none⟩) 0 0) 0 [] rfl CS.out.1 (some ⟨g, 0, none⟩) n n vs rfl VL.out (by simp) (Nat.le_refl _) CS.out.2.1 CS.out.2.2.1 (by unfold maxLen; omega) (by omega) (by rw [World.size_alloc]; omega) ?_; intro a2 c2 w2 O2 G2; simp only [Nat.zero_add, List.nil_append] at O2 ⊢; obtain ⟨g2, e2, CP0⟩ := copy_of O2.out (by omega) VL.out LF.out S4.out FW.out (CS.out.2.2.2.grown G2.out (by intro g e; right; exact (CS.out.1.lt g e).1)); subst e2; have CP := hid (CP0.put (k := 0) (by omega) (v := .slice a1 x1.length e1) (zs := x1) R1.out (by omega)); obtain ⟨ka, km, kd, kc, kf⟩ := CP0.cell (k := 0) (by omega); have d12 := CP0.kept.cell d1 (by simp); clear CP0 O2 G2)) | (refine wpList_isW rfl _ _ (exec_load _ _ _ _ rfl rfl (loadSpe _ p1 0 s (fun q' u hu => CP.out.kept.cell (S2.out q' u hu) (by simp)))) ?_) | fail)
      obtain ⟨w9, hw9⟩ : ∃ x, x = w2.setCell ⟨g2, 0, none⟩ (.slice a1 x1.length e1) := ⟨_, rfl⟩
      rw [← hw9] at CP ⊢
      have FEW := hid (show ∀ l ∈ F.set 0 x1, l.length ≤ 35184372088832 from fun l hl' => by
        rcases List.mem_or_eq_of_mem_set hl' with h | h
        · have := FS.out l h; omega
        · rw [h]; omega)
      have FEW2 := hid (show ∀ l ∈ (F.set 0 x1).set 0 x3, l.length ≤ 35184372088832 from fun l hl' => by
        rcases List.mem_or_eq_of_mem_set hl' with h | h
        · exact FEW.out l h
        · rw [h]; omega)
      have HJ := lJoin_any w9 s _ _ (n : Int) CP.out.rs FEW.out
      rw [J1.out] at HJ
      refine HJ.mono ?_
      rintro e w10 ⟨k10, aj, cj, rfl, -, -⟩
      have P10 := hid (CP.out.later k10)
      have P11 := hid (P10.out.put (k := 0) (by omega) (v := .slice a3 x3.length e3) (zs := x3) R3.out (by omega))
      obtain ⟨la, lm, ld, lc, lf⟩ := P10.out.cell (k := 0) (by omega)
      have d310 := P10.out.kept.cell D3.out (by simp)
      clear hw9 k10 HJ J1 CP kc kf d12 d1 d3 CS
      go_wp2_with (first | (refine wpList_isW rfl _ _ (exec_load _ _ _ _ rfl rfl (loadSpe _ p1 0 s (fun q' u hu => P11.out.kept.cell (S2.out q' u hu) (by simp)))) ?_) | fail)
      obtain ⟨w11, hw11⟩ : ∃ x, x = w10.setCell ⟨g2, 0, none⟩ (.slice a3 x3.length e3) := ⟨_, rfl⟩
      rw [← hw11] at P11 ⊢
      have HJ := lJoin_any w11 s _ _ (n : Int) P11.out.rs FEW2.out
      rw [J2.out] at HJ
      have hgn := fun W x y => guardSpe W .neq x y s t
      unfold speV at hgn
      have hbn := fun W => spe_neq s t W
      rw [← HST.out] at hbn
      cases st with
      | true =>
        rw [if_pos rfl] at HJ
        rw [Bool.not_true] at hbn
        refine HJ.mono ?_
        rintro e w12 ⟨k12, ak, ck, rfl, -, -⟩
        have K12 := hid ((HK.out.trans P11.out.kept).trans k12)
        have S12 := hid (show w12.rangeAt p1 0 s.cells from fun i u hu => k12.cell (P11.out.kept.cell (S2.out i u hu) (by simp)) (by simp))
        have T12 := hid (show w12.rangeAt (p1 + 1) 0 t.cells from fun i u hu => k12.cell (P11.out.kept.cell (T2.out i u hu) (by simp)) (by simp))
        clear hw11 k12 HJ J2 P10 P11 lc lf d310
        go_wp2_with (first | (refine wpList_isW rfl _ _ (exec_load _ _ _ _ rfl rfl (loadSpe _ p1 0 s S12.out)) ?_) | (refine wpList_isW rfl _ _ (exec_load _ _ _ _ rfl rfl (loadSpe _ (p1 + 1) 0 t T12.out)) ?_) | (refine wpList_isW rfl _ _ ((exec_neqSpe _ _ _ s t rfl rfl rfl).trans (by rw [← HST.out]; rfl)) ?_) | fail)
        go_ret
        exact ⟨rfl, K6.out.trans K12.out⟩
      | false =>
        rw [if_neg (by simp)] at HJ
        rw [Bool.not_false] at hbn
        refine HJ.mono ?_
        rintro e w12 ⟨k12, ak, ck, rfl, -, -⟩
        have K12 := hid ((HK.out.trans P11.out.kept).trans k12)
        have S12 := hid (show w12.rangeAt p1 0 s.cells from fun i u hu => k12.cell (P11.out.kept.cell (S2.out i u hu) (by simp)) (by simp))
        have T12 := hid (show w12.rangeAt (p1 + 1) 0 t.cells from fun i u hu => k12.cell (P11.out.kept.cell (T2.out i u hu) (by simp)) (by simp))
        clear hw11 k12 HJ J2 P10 P11 lc lf d310
        go_wp2_with (first | (refine wpList_isW rfl _ _ (exec_load _ _ _ _ rfl rfl (loadSpe _ p1 0 s S12.out)) ?_) | (refine wpList_isW rfl _ _ (exec_load _ _ _ _ rfl rfl (loadSpe _ (p1 + 1) 0 t T12.out)) ?_) | (refine wpList_isW rfl _ _ ((exec_neqSpe _ _ _ s t rfl rfl rfl).trans (by rw [← HST.out]; rfl)) ?_) | fail)
        go_ret
        exact ⟨rfl, K6.out.trans K12.out⟩
end Go.Proofs.Ytoglcohdanpciaa
