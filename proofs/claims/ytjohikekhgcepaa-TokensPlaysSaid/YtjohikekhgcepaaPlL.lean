/- TkPlaysW, TkPlays. -/
import Derived.Test.YtjohikekhgcepaaPlK
import Derived.Test.YtjohikekhgcepaaPlJ
import Derived.Deep.CutBlock
import Derived.BigQuiet
import Derived.Test.YtjohikekhgcepaaRows
/- tokens: TokensPlays' walk. -/
namespace Go.Proofs.Ytjohikekhgcepaa
open Go.RowKit Go.Shelf
set_option maxRecDepth 100000
set_option linter.unusedSimpArgs false
set_option linter.unusedVariables false

theorem iDeed : (Try.prog.info? 46).map (fun i => (i.zero, i.size)) = some (some (rkV rZ), 4) := by kernel_rfl
theorem dRk : RT 46 38 := ⟨by kernel_rfl, by kernel_rfl, by kernel_rfl, by kernel_rfl, by kernel_rfl, by kernel_rfl⟩
theorem PenSince.keepP {w w2 w3 : World} {T p v zs bad} (h : PenSince w w2 T p v zs bad) (k : Keeps [] w2 w3) : PenSince w w3 T p v zs bad :=
  ⟨h.pen.keep k (by simp) (by simp), h.kept.trans k⟩
theorem RTok.hlo {w w3 : World} {pm : Nat} {rx : List Rk} (h : RTok w pm pm rx) (k : Keeps [] w w3) : ∀ b ∈ w.heap.size :: (Value.slice none 0 0).ownBlock.toList, b ≠ pm ∧ ∀ a c, RTokV w3 pm pm (.slice a rx.length c) rx → (Value.slice a rx.length c).ownBlock ≠ some b := by
  intro b hb
  obtain rfl : b = w.heap.size := by simpa [Value.ownBlock] using hb
  have hl := h.lt
  obtain ⟨a0, c0, T0⟩ := h
  refine ⟨by omega, fun a c T => ?_⟩
  have e := (T0.later k).blk.symm.trans T.blk
  injection e with e
  injection e with e
  have e2 : Value.slice a0 rx.length c0 = Value.slice a rx.length c := by simpa using e
  rw [← e2]
  intro h
  have := (T0.own.blk _ h).2
  omega
theorem RTok.keepN {w w3 w4 : World} {pm p : Nat} {rx : List Rk} (h : RTok w pm pm rx) (k : Keeps [] w w3) (k4 : Keeps [p] w3 w4) (hp : w.heap.size ≤ p) : RTok w4 pm pm rx := by
  have hl := h.lt
  obtain ⟨a0, c0, T0⟩ := h
  refine ⟨a0, c0, (T0.later k).keep k4 (by simp; omega) (fun b hb hm => ?_)⟩
  have := (T0.own.blk b hb).2
  simp at hm
  omega
theorem TokAt.keepN {w w3 w4 : World} {M : List Nat} {q p : Nat} {rx : List Rk} (h : TokAt w M q rx) (k : Keeps [] w w3) (k4 : Keeps [p] w3 w4) (hp : w.heap.size ≤ p) : TokAt w4 M q rx := by
  have hl := h.lt
  have h2 := h.more (N := p :: M) (fun b hb => by
    rcases List.mem_cons.1 hb with rfl | hb
    · exact Or.inr hp
    · exact Or.inl hb) (List.mem_cons_of_mem _ h.mem)
  exact ((h2.later k).keep k4 (by simp; omega) (by simp)).more (fun b hb => Or.inl (List.mem_cons_of_mem _ hb)) h.mem
set_option maxHeartbeats 51200000 in
theorem plays15_any (w : World) (v : Value) (ds : List Rk) (hd : DdsAt w v ds) : Calls Try.prog 4 #[v] w (PB w true) := by
  obtain ⟨ad, cd, rfl⟩ := hd.shape
  have HD := hid hd
  clear hd
  go_enter Try.func4, Try.ntmps4
  go_wp2_with fail
  refine (awake15_any w).mono ?_
  rintro e w0 ⟨rfl, k0⟩
  have K0 := hid k0
  clear k0
  by_cases hbig : 150 < ds.length
  · have hb1 : decide ((150 : Int) < (ds.length : Int)) = true := by simp; omega
    go_wp2_with fail
    go_ret
    exact ⟨rfl, K0.out⟩
  have hb1 : decide ((150 : Int) < (ds.length : Int)) = false := by simp; omega
  have hb2 : ds.length ≤ 150 := by omega
  clear hbig
  go_wp2_with fail
  refine (tkNewB_any w0).mono ?_
  rintro e w1 ⟨rfl, t1, k1⟩
  obtain ⟨q, hq⟩ : ∃ q, q = w0.heap.size := ⟨_, rfl⟩
  have K1 := hid (K0.out.trans k1)
  rw [← hq] at t1 ⊢
  have HQ := hid (show w.heap.size ≤ q by have := K0.out.size; omega)
  obtain ⟨pm, hpm⟩ : ∃ p, p = w1.heap.size := ⟨_, rfl⟩
  have HPM := hid (show q < pm by have := lt_of_block t1; omega)
  have ka : Keeps [] w1 (w1.alloc (.cells #[.slice none 0 0] 44)) := (Keeps.refl [] w1).alloc _
  have T2 := hid (show TokAt (w1.alloc (.cells #[.slice none 0 0] 44)) [q, pm] q [] from TokAt.later ⟨⟨_, t1, RksAt.nil _ _⟩, by simp, by simp⟩ ka)
  have S2 := hid (show RTok (w1.alloc (.cells #[.slice none 0 0] 44)) pm pm [] from ⟨none, 0, by rw [hpm]; exact heap_alloc_new w1 _, OwnK.nil _ _ _ _ (by simp), by simp [Value.ownBlock], Nat.le_refl _⟩)
  have K2 := hid (K1.out.trans ka)
  have HPM1 := hid hpm
  clear hq t1 k1 hb1 ka
  go_wp2_with (first | (refine wpList_is rfl _ _ (exec_box 44 _ #[.slice none 0 0] rfl rfl) ?_; refine Hid.out ?_) | fail)
  all_goals (try refine hid ?_)
  rw [← HPM1.out]
  clear hpm
  generalize w1.alloc (.cells #[.slice none 0 0] 44) = w2 at T2 S2 K2 ⊢
  go_wp2_with fail
  go_loopw [5, 6, 7, 8, 9, 10, 11, 12, 13, 14, 15, 16, 17, 18] (fun iv _ _ _ _ _ _ _ _ _ _ _ _ _ wr => ∃ (i : Nat) (rs : List Rk), iv = .int .i64 (i : Int) ∧ i ≤ ds.length ∧ Hid (TokAt wr [q, pm] q rs) ∧ Hid (RTok wr pm pm rs) ∧ Hid (GoodK rs) ∧ Hid (rs.length ≤ i) ∧ Hid (Keeps [] w wr)) (fun iv _ _ _ _ _ _ _ _ _ _ _ _ _ _ => ds.length - (intOf iv).toNat)
  case atStart => exact ⟨0, [], rfl, by omega, T2, S2, hid GoodK.nil, hid (by simp), K2⟩
  case round =>
    obtain ⟨i, rs, rfl, hi, TT, SS, GG, LL, KK⟩ := hrel
    rename World => wo
    by_cases hlt : i < ds.length
    · obtain ⟨gd, od, e1, hgd, rd⟩ := (HD.out.keep KK.out).at hlt
      subst e1
      obtain ⟨x, hx⟩ : ∃ z, z = ds[i] := ⟨_, rfl⟩
      rw [← hx] at rd
      obtain ⟨dd, dc, dn, dw⟩ := x
      have RD := hid rd
      clear hx rd hgd
      have ka : Keeps [] wo (wo.alloc (.cells (Rk.cells ⟨dd, dc, dn, dw⟩).toArray 46)) := (Keeps.refl [] wo).alloc _
      obtain ⟨b0, b1, b2, b3⟩ := rkrange_at (rkrange_new wo (Rk.cells ⟨dd, dc, dn, dw⟩) 46)
      simp only [Nat.zero_add] at b0 b1 b2 b3
      have D0 := hid b0
      have D1 := hid b1
      have D2 := hid b2
      have D3 := hid b3
      have T1 := hid (TT.out.later ka)
      have S1 := hid (SS.out.later ka)
      have K1 := hid (KK.out.trans ka)
      have BDL := hid (show wo.heap.size < (wo.alloc (.cells (Rk.cells ⟨dd, dc, dn, dw⟩).toArray 46)).heap.size by simp)
      have BDQ := hid (show wo.heap.size ≠ q by have := TT.out.lt; omega)
      have BDM := hid (show wo.heap.size ≠ pm by have := SS.out.lt; omega)
      clear ka b0 b1 b2 b3
      go_wp2_with (first | (refine wpList_loadRk dRk rfl _ rfl gd (od + i * 4) (by simp [Act.eval]) ⟨dd, dc, dn, dw⟩ RD.out ?_) | (refine wpList_allocRk dRk rfl rfl ?_) | (refine wpList_newRk dRk rfl wo _ _ rfl rfl rfl ⟨dd, dc, dn, dw⟩ rfl ?_; refine Hid.out ?_) | fail)
      refine hid ?_
      generalize wo.alloc (.cells (Rk.cells ⟨dd, dc, dn, dw⟩).toArray 46) = w1 at D0 D1 D2 D3 T1 S1 K1 BDL ⊢
      generalize wo.heap.size = bd at D0 D1 D2 D3 BDL BDQ BDM ⊢
      clear RD

      go_upto_block 2 with fail
      go_cut [7, 8, 9, 10, 11, 12, 13] from 31 to 178 (fun t7 _ _ _ _ _ _ wx => t7 = .bool true ∧ ∃ rx : List Rk, Hid (TokAt wx [q, pm] q rx) ∧ Hid (RTok wx pm pm rx) ∧ Hid (GoodK rx) ∧ Hid (rx.length ≤ i + 1) ∧ Hid (Keeps [] w wx) ∧ Hid (wx.cell? ⟨bd, 1, none⟩ = some (.int .i64 dc)) ∧ Hid (wx.cell? ⟨bd, 2, none⟩ = some (.int .i64 dn)) ∧ Hid (wx.cell? ⟨bd, 3, none⟩ = some (.bool dw)) ∧ Hid (bd < wx.heap.size))
      case first =>
        have d0 := D0.out
        by_cases h4 : dd ≤ 4
        · have h4' : decide (dd ≤ 4) = true := decide_eq_true h4
          have h6 := 0
          have RX := hid (GG.out.open dc dn dw)
          have LN := hid (openK_len rs dc dn dw)
          have C1 := open_any T1.out (by have := T1.out.lt; have := S1.out.lt; simp; omega) dc dn dw (by have := LL.out; omega)
          have HQL := hid T1.out.lt
          have HPL := hid S1.out.lt
          obtain ⟨⟨⟨hh, ee⟩, rx⟩, hR⟩ : ∃ R, openK rs dc dn dw = R := ⟨_, rfl⟩
          rw [hR] at RX LN C1
          simp only at RX LN
          have E1 : (hh == hh) = true := by simp
          have E2 : (ee == ee) = true := by simp
          have d1 := D1.out
          have d2 := D2.out
          have d3 := D3.out
          clear h4 h6
          go_wp2_with fail
          refine C1.mono ?_
          rintro e w2 ⟨rfl, t2, k2⟩
          clear C1
          have KX1 := hid k2
          have S2 := hid (S1.out.keep k2 HPM.out)
          have BD2 := hid (Nat.lt_of_lt_of_le BDL.out k2.size)
          have e1 := hid (Keeps.cell k2 D1.out (by have := BDQ.out; simpa using this))
          have e2 := hid (Keeps.cell k2 D2.out (by have := BDQ.out; simpa using this))
          have e3 := hid (Keeps.cell k2 D3.out (by have := BDQ.out; simpa using this))
          have C2 := rOpen_any S2.out (Nat.le_of_lt S2.out.lt) (by have := LL.out; omega) GG.out dc dn dw
          have T2 := hid t2
          clear t2 k2 d0 d1 d2 d3
          have d1 := e1.out
          have d2 := e2.out
          have d3 := e3.out
          rw [hR] at C2
          go_wp2_with fail
          refine C2.mono ?_
          rintro e w3 ⟨rfl, s3, k3⟩
          clear C2 d1 d2 d3
          have T3 := hid (T2.out.keep k3 (by have := HPM.out; simp; omega) (by simp))
          have S3 := hid s3
          have D1' := hid (Keeps.cell k3 e1.out (by have := BDM.out; simpa using this))
          have D2' := hid (Keeps.cell k3 e2.out (by have := BDM.out; simpa using this))
          have D3' := hid (Keeps.cell k3 e3.out (by have := BDM.out; simpa using this))
          have BD3 := hid (Nat.lt_of_lt_of_le BD2.out k3.size)
          have K3 := hid (keep_new (keep_new K1.out KX1.out HQ.out) k3 (by have := HQ.out; have := HPM.out; omega))
          clear s3 k3 e1 e2 e3
          clear hR
          go_wp2_with fail
          go_meet
          exact ⟨rfl, rx, T3, S3, hid RX.out, hid (by have := LN.out; have := LL.out; omega), K3, D1', D2', D3', BD3⟩
        · have h4' : decide (dd ≤ 4) = false := decide_eq_false h4
          by_cases h6 : dd ≤ 6
          · have h6' : decide (dd ≤ 6) = true := decide_eq_true h6
            have RX := hid (GG.out.filter (keepK (atK dc dn)))
            have LN := hid (Nat.le_succ_of_le (List.length_filter_le (keepK (atK dc dn)) rs))
            have C1 := close_any T1.out (by have := T1.out.lt; have := S1.out.lt; simp; omega) dc dn
            have HQL := hid T1.out.lt
            have HPL := hid S1.out.lt
            obtain ⟨rx, hR⟩ : ∃ R, rs.filter (keepK (atK dc dn)) = R := ⟨_, rfl⟩
            obtain ⟨ee, hE⟩ : ∃ R, closeE rs dc dn = R := ⟨_, rfl⟩
            rw [hR] at RX LN
            rw [hR, hE] at C1
            have E2 : (ee == ee) = true := by simp
            have d1 := D1.out
            have d2 := D2.out
            clear h4 h6
            go_wp2_with fail
            refine C1.mono ?_
            rintro e w2 ⟨rfl, t2, k2⟩
            clear C1
            have KX1 := hid k2
            have S2 := hid (S1.out.keep k2 HPM.out)
            have BD2 := hid (Nat.lt_of_lt_of_le BDL.out k2.size)
            have e1 := hid (Keeps.cell k2 D1.out (by have := BDQ.out; simpa using this))
            have e2 := hid (Keeps.cell k2 D2.out (by have := BDQ.out; simpa using this))
            have e3 := hid (Keeps.cell k2 D3.out (by have := BDQ.out; simpa using this))
            have C2 := rClose_any S2.out (Nat.le_of_lt S2.out.lt) (by have := LL.out; omega) dc dn
            have T2 := hid t2
            clear t2 k2 d0 d1 d2
            have d1 := e1.out
            have d2 := e2.out
            rw [hR, hE] at C2
            go_wp2_with fail
            refine C2.mono ?_
            rintro e w3 ⟨rfl, s3, k3⟩
            clear C2 d1 d2
            have T3 := hid (T2.out.keep k3 (by have := HPM.out; simp; omega) (by simp))
            have S3 := hid s3
            have D1' := hid (Keeps.cell k3 e1.out (by have := BDM.out; simpa using this))
            have D2' := hid (Keeps.cell k3 e2.out (by have := BDM.out; simpa using this))
            have D3' := hid (Keeps.cell k3 e3.out (by have := BDM.out; simpa using this))
            have BD3 := hid (Nat.lt_of_lt_of_le BD2.out k3.size)
            have K3 := hid (keep_new (keep_new K1.out KX1.out HQ.out) k3 (by have := HQ.out; have := HPM.out; omega))
            clear s3 k3 e1 e2 e3
            clear hR hE
            go_wp2_with fail
            go_meet
            exact ⟨rfl, rx, T3, S3, hid RX.out, hid (by have := LN.out; have := LL.out; omega), K3, D1', D2', D3', BD3⟩
          · have h6' : decide (dd ≤ 6) = false := decide_eq_false h6
            have RX := hid (GG.out.filter (keepK (sameCl dc)))
            have LN := hid (Nat.le_succ_of_le (List.length_filter_le (keepK (sameCl dc)) rs))
            have C1 := drop_any T1.out (by have := T1.out.lt; have := S1.out.lt; simp; omega) dc
            have HQL := hid T1.out.lt
            have HPL := hid S1.out.lt
            obtain ⟨rx, hR⟩ : ∃ R, rs.filter (keepK (sameCl dc)) = R := ⟨_, rfl⟩
            unfold LosePost at C1
            rw [hR] at RX LN C1
            obtain ⟨ee, hE⟩ : ∃ R, (rs.length : Int) - (rx.length : Int) = R := ⟨_, rfl⟩
            rw [hE] at C1
            have E2 : (ee == ee) = true := by simp
            have d1 := D1.out
            clear h4 h6
            go_wp2_with fail
            refine C1.mono ?_
            rintro e w2 ⟨rfl, t2, k2⟩
            clear C1
            have KX1 := hid k2
            have S2 := hid (S1.out.keep k2 HPM.out)
            have BD2 := hid (Nat.lt_of_lt_of_le BDL.out k2.size)
            have e1 := hid (Keeps.cell k2 D1.out (by have := BDQ.out; simpa using this))
            have e2 := hid (Keeps.cell k2 D2.out (by have := BDQ.out; simpa using this))
            have e3 := hid (Keeps.cell k2 D3.out (by have := BDQ.out; simpa using this))
            have C2 := rDrop_any S2.out (Nat.le_of_lt S2.out.lt) (by have := LL.out; omega) dc
            have T2 := hid t2
            clear t2 k2 d0 d1
            have d1 := e1.out
            unfold RDropPost at C2
            rw [hR, hE] at C2
            go_wp2_with fail
            refine C2.mono ?_
            rintro e w3 ⟨rfl, s3, k3⟩
            clear C2 d1
            have T3 := hid (T2.out.keep k3 (by have := HPM.out; simp; omega) (by simp))
            have S3 := hid s3
            have D1' := hid (Keeps.cell k3 e1.out (by have := BDM.out; simpa using this))
            have D2' := hid (Keeps.cell k3 e2.out (by have := BDM.out; simpa using this))
            have D3' := hid (Keeps.cell k3 e3.out (by have := BDM.out; simpa using this))
            have BD3 := hid (Nat.lt_of_lt_of_le BD2.out k3.size)
            have K3 := hid (keep_new (keep_new K1.out KX1.out HQ.out) k3 (by have := HQ.out; have := HPM.out; omega))
            clear s3 k3 e1 e2 e3
            clear hR hE
            go_wp2_with fail
            go_meet
            exact ⟨rfl, rx, T3, S3, hid RX.out, hid (by have := LN.out; have := LL.out; omega), K3, D1', D2', D3', BD3⟩
      case rest =>
        obtain ⟨rfl, rx, TX, SX, GX, LX, KX, DX1, DX2, DX3, BDX⟩ := hcut
        clear D0 D1 D2 D3 TT SS GG LL KK T1 S1 K1 BDL
        have HRX := hid (show rx.length ≤ 1000 by have := LX.out; omega)
        have HRY := hid (show rx.length ≤ 255 by have := LX.out; omega)
        obtain ⟨wy, hwy⟩ : ∃ z, z = wc := ⟨_, rfl⟩
        rw [← hwy] at TX SX KX DX1 DX2 DX3 BDX ⊢
        clear hwy
        have P1 := hid (PenSince.new wy (Keeps.refl [] wy) 56)
        have ka : Keeps [] wy (wy.alloc (.cells #[.slice none 0 0, .int .i64 0] 56)) := (Keeps.refl [] wy).alloc _
        have KA := hid ka
        have SXA := hid (SX.out.later ka)
        clear ka
        go_wp2_with fail
        have A := rwrite15_any SXA.out HRX.out wy.heap.size wy.heap.size (.slice none 0 0) ([], 0) P1.out.pen P1.out.kept.size (SX.out.hlo KA.out)
        rw [(wr_good GX.out HRY.out rx.length (Nat.le_refl _)).2] at A
        refine A.mono ?_
        intro e w4 hq
        have k4 : Keeps [wy.heap.size] (wy.alloc (.cells #[.slice none 0 0, .int .i64 0] 56)) w4 := by
          obtain ⟨_, v', _, h, _⟩ := hq
          simpa [Value.ownBlock] using h
        obtain ⟨rfl, vp, q4⟩ := P1.out.step hq
        have P4 := hid q4
        have T4 := hid (TX.out.keepN KA.out k4 (Nat.le_refl _))
        have S4 := hid (SX.out.keepN KA.out k4 (Nat.le_refl _))
        have KW4 := hid (KA.out.trans' k4 (S := []) (fun i hi hm => by simp at hm; omega))
        have DY1 := hid (Keeps.cell KW4.out DX1.out (by simp))
        have DY2 := hid (Keeps.cell KW4.out DX2.out (by simp))
        have K4 := hid (KX.out.trans KW4.out)
        have BD4 := hid (Nat.lt_of_lt_of_le BDX.out KW4.out.size)
        obtain ⟨pp, hpp⟩ : ∃ z, z = wy.heap.size := ⟨_, rfl⟩
        rw [← hpp] at P4 ⊢
        clear A hq k4 q4 hpp P1 SXA KA TX SX KX DX1 DX2 DX3 BDX KW4
        have d1 := DY1.out
        have d2 := DY2.out
        go_wp2_with fail
        refine (of_any T4.out dc dn).mono ?_
        rintro e w5 ⟨rfl, k5⟩
        obtain ⟨y, hy⟩ : ∃ z, z = ofR rx dc dn := ⟨_, rfl⟩
        obtain ⟨bf, hbf⟩ : ∃ z, z = rx.any (atK dc dn) := ⟨_, rfl⟩
        have HY := hid hy
        have HBF := hid hbf
        rw [← hy, ← hbf]
        clear d1 d2 hy hbf
        have ka : Keeps [] w5 (w5.alloc (.cells y.cells.toArray 59)) := (Keeps.refl [] w5).alloc _
        have k6 := k5.trans ka
        have Y6 := hid (rkrange_new w5 y.cells 59)
        have YL6 := hid (show w5.heap.size < (w5.alloc (.cells y.cells.toArray 59)).heap.size by simp)
        have P6 := hid (P4.out.keepP k6)
        have T6 := hid (T4.out.later k6)
        have S6 := hid (S4.out.later k6)
        have DZ1 := hid (Keeps.cell k6 DY1.out (by simp))
        have DZ2 := hid (Keeps.cell k6 DY2.out (by simp))
        have K6 := hid (K4.out.trans k6)
        have BD6 := hid (Nat.lt_of_lt_of_le BD4.out k6.size)
        clear k5 ka k6 P4 T4 S4 DY1 DY2 K4 BD4
        go_wp2_with (first | (refine wpList_allocRk cRk rfl rfl ?_) | (refine wpList_newRk cRk rfl w5 _ _ rfl rfl rfl y rfl ?_; refine Hid.out ?_) | fail)
        refine hid ?_
        generalize w5.alloc (.cells y.cells.toArray 59) = w6 at Y6 YL6 P6 T6 S6 DZ1 DZ2 K6 BD6 ⊢
        generalize w5.heap.size = b6 at Y6 YL6 ⊢
        have d1 := DZ1.out
        have d2 := DZ2.out
        go_wp2_with fail
        refine (rOf_any S6.out HRX.out dc dn).mono ?_
        rintro e w7 ⟨rfl, k7⟩
        rw [← HY.out, ← HBF.out]
        clear d1 d2
        have ka : Keeps [] w7 (w7.alloc (.cells y.cells.toArray 62)) := (Keeps.refl [] w7).alloc _
        have k8 := k7.trans ka
        have X8 := hid (rkrange_new w7 y.cells 62)
        have XL8 := hid (show w7.heap.size < (w7.alloc (.cells y.cells.toArray 62)).heap.size by simp)
        have Y8 := hid (show (w7.alloc (.cells y.cells.toArray 62)).rangeAt b6 0 y.cells from fun j u hu => Keeps.cell k8 (Y6.out j u hu) (by simp))
        have YL8 := hid (Nat.lt_of_lt_of_le YL6.out k8.size)
        have P8 := hid (P6.out.keepP k8)
        have T8 := hid (T6.out.later k8)
        have S8 := hid (S6.out.later k8)
        have DW2 := hid (Keeps.cell k8 DZ2.out (by simp))
        have K8 := hid (K6.out.trans k8)
        have BD8 := hid (Nat.lt_of_lt_of_le BD6.out k8.size)
        clear k7 ka k8 P6 T6 S6 DZ1 DZ2 K6 BD6 Y6 YL6
        go_wp2_with (first | (refine wpList_allocRk rRk rfl rfl ?_) | (refine wpList_newRk rRk rfl w7 _ _ rfl rfl rfl y rfl ?_; refine Hid.out ?_) | fail)
        refine hid ?_
        generalize w7.alloc (.cells y.cells.toArray 62) = w8 at X8 XL8 Y8 YL8 P8 T8 S8 DW2 K8 BD8 ⊢
        generalize w7.heap.size = b8 at X8 XL8 ⊢
        clear HY HBF
        obtain ⟨yc, yh, yn, yb⟩ := y
        have X2 := hid (rkrange_at X8.out).2.2.1
        have X3 := hid (rkrange_at X8.out).2.2.2
        have Y2 := hid (rkrange_at Y8.out).2.2.1
        have Y3 := hid (rkrange_at Y8.out).2.2.2
        obtain ⟨az, cz, hz⟩ := S8.out
        have SZ := hid hz
        have CZ := hid hz.cell.1
        have LZ := hid hz.lt
        have OZ := hid hz.own.at
        have hpr := row_of_own P8.out.pen.own P8.out.pen.byte
        obtain ⟨ap, cp, hvp⟩ : ∃ a c, vp = .slice a (tokB rx rx.length).length c := by obtain ⟨a, c, e, _⟩ := hpr; exact ⟨a, c, e⟩
        subst hvp
        have PR := hid hpr
        have PC := hid P8.out.pen.cell0
        have PL := hid P8.out.pen.lt
        obtain ⟨bl, hbl⟩ : ∃ z, z = tokB rx rx.length := ⟨_, rfl⟩
        have TL := hid (show bl.length ≤ 35184372088832 by have := P8.out.pen.fits; rw [hbl]; exact Nat.le_trans this (by decide))
        have BT := hid (show bytesTk rx = bl by unfold bytesTk; rw [(wr_good GX.out HRY.out rx.length (Nat.le_refl _)).1, hbl]; rfl)
        rw [← hbl] at PR PC
        clear hz hpr hbl
        simp only at X2 X3 Y2 Y3
        go_wp2_with fail
        refine wp_region_any (by kernel_rfl) (wpAny_of_held (S := KpS [] w8.heap.size w8.drew) _ _ _ _ ?_)
        change wpAnyH _ _ _ _ _ _ _ _ w8.drew
        have s0 : KpS [] w8.heap.size w8.drew w8.drew := KpS.refl _ _ _
        have cZ : ∀ W1, KpS [] w8.heap.size w8.drew W1 → W1.cell? ⟨pm, 0, none⟩ = some (.slice az rx.length cz) := fun W1 h => h.cell (by rw [World.cell?_drew]; exact CZ.out) LZ.out (by simp)
        have cP : ∀ W1, KpS [] w8.heap.size w8.drew W1 → W1.cell? ⟨pp, 0, none⟩ = some (.slice ap bl.length cp) := fun W1 h => h.cell (by rw [World.cell?_drew]; exact PC.out) PL.out (by simp)
        have cN : ∀ W1, KpS [] w8.heap.size w8.drew W1 → W1.cell? ⟨bd, 2, none⟩ = some (.int .i64 dn) := fun W1 h => h.cell (by rw [World.cell?_drew]; exact DW2.out) BD8.out (by simp)
        have cY2 : ∀ W1, KpS [] w8.heap.size w8.drew W1 → W1.cell? ⟨b6, 2, none⟩ = some (.int .i64 yn) := fun W1 h => h.cell (by rw [World.cell?_drew]; simpa using Y2.out) YL8.out (by simp)
        have cY3 : ∀ W1, KpS [] w8.heap.size w8.drew W1 → W1.cell? ⟨b6, 3, none⟩ = some (.bool yb) := fun W1 h => h.cell (by rw [World.cell?_drew]; simpa using Y3.out) YL8.out (by simp)
        have cX2 : ∀ W1, KpS [] w8.heap.size w8.drew W1 → W1.cell? ⟨b8, 2, none⟩ = some (.int .i64 yn) := fun W1 h => h.cell (by rw [World.cell?_drew]; simpa using X2.out) XL8.out (by simp)
        have cX3 : ∀ W1, KpS [] w8.heap.size w8.drew W1 → W1.cell? ⟨b8, 3, none⟩ = some (.bool yb) := fun W1 h => h.cell (by rw [World.cell?_drew]; simpa using X3.out) XL8.out (by simp)
        refine held_take (i := 0) (v := .bool true) rfl (by kernel_rfl) (by kernel_rfl) (by kernel_rfl) (fun _ _ _ h => h) rfl (fun W1 hW1 => rfl) (KpS.refl _ _ _) ?_
        simp only [Act.put, List.setIfInBounds_toArray, List.set_cons_zero, List.set_cons_succ]
        refine held_take (i := 1) (v := .bool false) rfl (by kernel_rfl) (by kernel_rfl) (by kernel_rfl) (fun _ _ _ h => h) rfl (fun W1 hW1 => by go_simp) (KpS.refl _ _ _) ?_
        simp only [Act.put, List.setIfInBounds_toArray, List.set_cons_zero, List.set_cons_succ]
        refine held_take (i := 2) (v := .bool false) rfl (by kernel_rfl) (by kernel_rfl) (by kernel_rfl) (fun _ _ _ h => h) rfl (fun W1 hW1 => by go_simp) (KpS.refl _ _ _) ?_
        simp only [Act.put, List.setIfInBounds_toArray, List.set_cons_zero, List.set_cons_succ]
        refine held_takeW (i := 3) (v := .pointer (some ⟨q, 0, none⟩)) rfl (by kernel_rfl) (by kernel_rfl) (by kernel_rfl) (fun _ _ _ h => h) rfl (fun W1 hW1 => rfl) (KpS.refl _ _ _) ?_
        simp only [Act.put, List.setIfInBounds_toArray, List.set_cons_zero, List.set_cons_succ]
        refine held_takeW (i := 6) (v := .pointer (some ⟨pm, 0, none⟩)) rfl (by kernel_rfl) (by kernel_rfl) (by kernel_rfl) (fun _ _ _ h => h) rfl (fun W1 hW1 => rfl) (KpS.refl _ _ _) ?_
        simp only [Act.put, List.setIfInBounds_toArray, List.set_cons_zero, List.set_cons_succ]
        refine held_takeW (i := 7) (v := .pointer (some ⟨pm, 0, none⟩)) rfl (by kernel_rfl) (by kernel_rfl) (by kernel_rfl) (fun _ _ _ h => h) rfl (fun W1 hW1 => by go_simp) (KpS.refl _ _ _) ?_
        simp only [Act.put, List.setIfInBounds_toArray, List.set_cons_zero, List.set_cons_succ]
        refine held_takeW (i := 8) (v := .pointer (some ⟨pm, 0, none⟩)) rfl (by kernel_rfl) (by kernel_rfl) (by kernel_rfl) (fun _ _ _ h => h) rfl (fun W1 hW1 => by go_simp) (KpS.refl _ _ _) ?_
        simp only [Act.put, List.setIfInBounds_toArray, List.set_cons_zero, List.set_cons_succ]
        refine held_takeW (i := 9) (v := .slice az rx.length cz) rfl (by kernel_rfl) (by kernel_rfl) (by kernel_rfl) (fun _ _ _ h => h) rfl (fun W1 hW1 => exec_load _ _ _ _ rfl rfl (run_loadCell W1 _ _ _ (cZ W1 hW1) (agg_no _ (by kernel_rfl)))) (KpS.refl _ _ _) ?_
        simp only [Act.put, List.setIfInBounds_toArray, List.set_cons_zero, List.set_cons_succ]
        refine held_doW (i := 4) (by kernel_rfl) rfl rfl (wp_enter (f := 30) (args := #[.pointer (some ⟨q, 0, none⟩)]) (by go_simp) (rowsF_any (T8.out.later (Keeps.refl [] w8).drew) [] (by simp)) ?_)
        rintro e v1 ⟨a1, c1, rfl, o1, k1⟩
        have s1 : KpS [] w8.heap.size w8.drew v1 := s0.keeps k1 s0.size (by simp)
        have h1 : Keeps [] w8 v1 := (Keeps.refl [] w8).drew.trans k1
        refine ⟨_, rfl, s1, ?_⟩
        simp only [Act.put, List.setIfInBounds_toArray, List.set_cons_zero, List.set_cons_succ]
        refine held_doW (i := 5) (by kernel_rfl) rfl rfl (wp_enter (f := 29) (args := #[.slice a1 rx.length c1]) (by go_simp) (model_any _ [] _ rx o1.at HRX.out) ?_)
        rintro e v2 ⟨a2, c2, rfl, o2, k2⟩
        have s2 : KpS [] w8.heap.size w8.drew v2 := s1.keeps k2 s1.size (by simp)
        have h2 : Keeps [] w8 v2 := h1.trans k2
        refine ⟨_, rfl, s2, ?_⟩
        simp only [Act.put, List.setIfInBounds_toArray, List.set_cons_zero, List.set_cons_succ]
        refine held_doW (i := 10) (by kernel_rfl) rfl rfl (wp_enter (f := 28) (args := #[.slice a2 rx.length c2, .slice az rx.length cz]) (by go_simp) (sameK_any _ [] [] _ _ rx o2 (OZ.out.later h2) HRX.out) ?_)
        rintro e v3 ⟨rfl, k3⟩
        have s3 : KpS [] w8.heap.size w8.drew v3 := s2.keeps k3 s2.size (by simp)
        have h3 : Keeps [] w8 v3 := h2.trans k3
        refine ⟨_, rfl, s3, ?_⟩
        simp only [Act.put, List.setIfInBounds_toArray, List.set_cons_zero, List.set_cons_succ]
        refine held_takeW (i := 11) (v := .bool false) rfl (by kernel_rfl) (by kernel_rfl) (by kernel_rfl) (fun _ _ _ h => h) rfl (fun W1 hW1 => by go_simp) (s3) ?_
        simp only [Act.put, List.setIfInBounds_toArray, List.set_cons_zero, List.set_cons_succ]
        refine held_take (i := 12) (v := .bool false) rfl (by kernel_rfl) (by kernel_rfl) (by kernel_rfl) (fun _ _ _ h => h) rfl (fun W1 hW1 => by go_simp) (s3) ?_
        simp only [Act.put, List.setIfInBounds_toArray, List.set_cons_zero, List.set_cons_succ]
        refine held_take (i := 13) (v := .bool false) rfl (by kernel_rfl) (by kernel_rfl) (by kernel_rfl) (fun _ _ _ h => h) rfl (fun W1 hW1 => by go_simp) (s3) ?_
        simp only [Act.put, List.setIfInBounds_toArray, List.set_cons_zero, List.set_cons_succ]
        refine held_takeW (i := 14) (v := .pointer (some ⟨q, 0, none⟩)) rfl (by kernel_rfl) (by kernel_rfl) (by kernel_rfl) (fun _ _ _ h => h) rfl (fun W1 hW1 => rfl) (s3) ?_
        simp only [Act.put, List.setIfInBounds_toArray, List.set_cons_zero, List.set_cons_succ]
        refine held_takeW (i := 15) (v := .pointer (some ⟨bd, 2, none⟩)) rfl (by kernel_rfl) (by kernel_rfl) (by kernel_rfl) (fun _ _ _ h => h) rfl (fun W1 hW1 => by go_simp) (s3) ?_
        simp only [Act.put, List.setIfInBounds_toArray, List.set_cons_zero, List.set_cons_succ]
        refine held_takeW (i := 16) (v := .int .i64 dn) rfl (by kernel_rfl) (by kernel_rfl) (by kernel_rfl) (fun _ _ _ h => h) rfl (fun W1 hW1 => exec_load _ _ _ _ rfl rfl (run_loadCell W1 _ _ _ (cN W1 hW1) (agg_no _ (by kernel_rfl)))) (s3) ?_
        simp only [Act.put, List.setIfInBounds_toArray, List.set_cons_zero, List.set_cons_succ]
        refine held_takeW (i := 18) (v := .pointer (some ⟨pm, 0, none⟩)) rfl (by kernel_rfl) (by kernel_rfl) (by kernel_rfl) (fun _ _ _ h => h) rfl (fun W1 hW1 => rfl) (s3) ?_
        simp only [Act.put, List.setIfInBounds_toArray, List.set_cons_zero, List.set_cons_succ]
        refine held_takeW (i := 19) (v := .pointer (some ⟨bd, 2, none⟩)) rfl (by kernel_rfl) (by kernel_rfl) (by kernel_rfl) (fun _ _ _ h => h) rfl (fun W1 hW1 => by go_simp) (s3) ?_
        simp only [Act.put, List.setIfInBounds_toArray, List.set_cons_zero, List.set_cons_succ]
        refine held_takeW (i := 20) (v := .int .i64 dn) rfl (by kernel_rfl) (by kernel_rfl) (by kernel_rfl) (fun _ _ _ h => h) rfl (fun W1 hW1 => exec_load _ _ _ _ rfl rfl (run_loadCell W1 _ _ _ (cN W1 hW1) (agg_no _ (by kernel_rfl)))) (s3) ?_
        simp only [Act.put, List.setIfInBounds_toArray, List.set_cons_zero, List.set_cons_succ]
        refine held_doW (i := 17) (by kernel_rfl) rfl rfl (wp_enter (f := 31) (args := #[.pointer (some ⟨q, 0, none⟩), .int .i64 dn]) (by go_simp) (busy_any (T8.out.later h3) dn) ?_)
        rintro e v4 ⟨rfl, k4⟩
        have s4 : KpS [] w8.heap.size w8.drew v4 := s3.keeps k4 s3.size (by simp)
        have h4 : Keeps [] w8 v4 := h3.trans k4
        refine ⟨_, rfl, s4, ?_⟩
        simp only [Act.put, List.setIfInBounds_toArray, List.set_cons_zero, List.set_cons_succ]
        have RB := rBusy_any (S8.out.later h4) HRX.out dn
        obtain ⟨bz, hbz⟩ : ∃ z, z = rx.any (freeIno dn) := ⟨_, rfl⟩
        rw [← hbz] at RB ⊢
        clear hbz
        have NB : (bz != bz) = false := by cases bz <;> rfl
        refine held_doW (i := 21) (by kernel_rfl) rfl rfl (wp_enter (f := 32) (args := #[.pointer (some ⟨pm, 0, none⟩), .int .i64 dn]) (by go_simp) (RB) ?_)
        rintro e v5 ⟨rfl, k5⟩
        have s5 : KpS [] w8.heap.size w8.drew v5 := s4.keeps k5 s4.size (by simp)
        have h5 : Keeps [] w8 v5 := h4.trans k5
        refine ⟨_, rfl, s5, ?_⟩
        simp only [Act.put, List.setIfInBounds_toArray, List.set_cons_zero, List.set_cons_succ]
        refine held_takeW (i := 22) (v := .bool false) rfl (by kernel_rfl) (by kernel_rfl) (by kernel_rfl) (fun _ _ _ h => h) rfl (fun W1 hW1 => by cases bz <;> go_simp) (s5) ?_
        simp only [Act.put, List.setIfInBounds_toArray, List.set_cons_zero, List.set_cons_succ]
        refine held_take (i := 23) (v := .bool false) rfl (by kernel_rfl) (by kernel_rfl) (by kernel_rfl) (fun _ _ _ h => h) rfl (fun W1 hW1 => by go_simp) (s5) ?_
        simp only [Act.put, List.setIfInBounds_toArray, List.set_cons_zero, List.set_cons_succ]
        refine held_take (i := 24) (v := .bool false) rfl (by kernel_rfl) (by kernel_rfl) (by kernel_rfl) (fun _ _ _ h => h) rfl (fun W1 hW1 => by go_simp) (s5) ?_
        simp only [Act.put, List.setIfInBounds_toArray, List.set_cons_zero, List.set_cons_succ]
        refine held_takeW (i := 25) (v := .pointer (some ⟨q, 0, none⟩)) rfl (by kernel_rfl) (by kernel_rfl) (by kernel_rfl) (fun _ _ _ h => h) rfl (fun W1 hW1 => rfl) (s5) ?_
        simp only [Act.put, List.setIfInBounds_toArray, List.set_cons_zero, List.set_cons_succ]
        refine held_takeW (i := 27) (v := .pointer (some ⟨pp, 0, none⟩)) rfl (by kernel_rfl) (by kernel_rfl) (by kernel_rfl) (fun _ _ _ h => h) rfl (fun W1 hW1 => rfl) (s5) ?_
        simp only [Act.put, List.setIfInBounds_toArray, List.set_cons_zero, List.set_cons_succ]
        refine held_takeW (i := 28) (v := .pointer (some ⟨pp, 0, none⟩)) rfl (by kernel_rfl) (by kernel_rfl) (by kernel_rfl) (fun _ _ _ h => h) rfl (fun W1 hW1 => by go_simp) (s5) ?_
        simp only [Act.put, List.setIfInBounds_toArray, List.set_cons_zero, List.set_cons_succ]
        refine held_takeW (i := 29) (v := .pointer (some ⟨pp, 0, none⟩)) rfl (by kernel_rfl) (by kernel_rfl) (by kernel_rfl) (fun _ _ _ h => h) rfl (fun W1 hW1 => by go_simp) (s5) ?_
        simp only [Act.put, List.setIfInBounds_toArray, List.set_cons_zero, List.set_cons_succ]
        refine held_takeW (i := 30) (v := .slice ap bl.length cp) rfl (by kernel_rfl) (by kernel_rfl) (by kernel_rfl) (fun _ _ _ h => h) rfl (fun W1 hW1 => exec_load _ _ _ _ rfl rfl (run_loadCell W1 _ _ _ (cP W1 hW1) (agg_no _ (by kernel_rfl)))) (s5) ?_
        simp only [Act.put, List.setIfInBounds_toArray, List.set_cons_zero, List.set_cons_succ]
        have LB := lBytes15_any (T8.out.later h5)
        rw [BT.out] at LB
        refine held_doW (i := 26) (by kernel_rfl) rfl rfl (wp_enter (f := 33) (args := #[.pointer (some ⟨q, 0, none⟩)]) (by go_simp) (LB) ?_)
        rintro e v6 ⟨a6, c6, rfl, o6, n6, k6⟩
        have s6 : KpS [] w8.heap.size w8.drew v6 := s5.keeps k6 s5.size (by simp)
        have h6 : Keeps [] w8 v6 := h5.trans k6
        refine ⟨_, rfl, s6, ?_⟩
        simp only [Act.put, List.setIfInBounds_toArray, List.set_cons_zero, List.set_cons_succ]
        refine held_doW (i := 31) (by kernel_rfl) rfl rfl (wp_enter (f := 16) (args := #[.slice a6 bl.length c6, .slice ap bl.length cp]) (by go_simp) (same_any v6 _ _ bl bl o6 (PR.out.keep h6 (by intro _ _ _ _ _; simp)) TL.out TL.out) ?_)
        rintro e v7 ⟨rfl, n7, e7⟩
        have k7 : Keeps [] v6 v7 := by rw [e7]; exact (Keeps.refl [] v6).drewN n7
        have s7 : KpS [] w8.heap.size w8.drew v7 := s6.keeps k7 s6.size (by simp)
        have h7 : Keeps [] w8 v7 := h6.trans k7
        rw [show decide (bl = bl) = true by simp]
        refine ⟨_, rfl, s7, ?_⟩
        simp only [Act.put, List.setIfInBounds_toArray, List.set_cons_zero, List.set_cons_succ]
        refine held_takeW (i := 32) (v := .bool false) rfl (by kernel_rfl) (by kernel_rfl) (by kernel_rfl) (fun _ _ _ h => h) rfl (fun W1 hW1 => by go_simp) (s7) ?_
        simp only [Act.put, List.setIfInBounds_toArray, List.set_cons_zero, List.set_cons_succ]
        refine held_take (i := 33) (v := .bool false) rfl (by kernel_rfl) (by kernel_rfl) (by kernel_rfl) (fun _ _ _ h => h) rfl (fun W1 hW1 => by go_simp) (s7) ?_
        simp only [Act.put, List.setIfInBounds_toArray, List.set_cons_zero, List.set_cons_succ]
        refine held_take (i := 34) (v := .bool false) rfl (by kernel_rfl) (by kernel_rfl) (by kernel_rfl) (fun _ _ _ h => h) rfl (fun W1 hW1 => by go_simp) (s7) ?_
        simp only [Act.put, List.setIfInBounds_toArray, List.set_cons_zero, List.set_cons_succ]
        refine held_takeW (i := 35) (v := .bool bf) rfl (by kernel_rfl) (by kernel_rfl) (by kernel_rfl) (fun _ _ _ h => h) rfl (fun W1 hW1 => rfl) (s7) ?_
        simp only [Act.put, List.setIfInBounds_toArray, List.set_cons_zero, List.set_cons_succ]
        refine held_takeW (i := 36) (v := .bool bf) rfl (by kernel_rfl) (by kernel_rfl) (by kernel_rfl) (fun _ _ _ h => h) rfl (fun W1 hW1 => rfl) (s7) ?_
        simp only [Act.put, List.setIfInBounds_toArray, List.set_cons_zero, List.set_cons_succ]
        refine held_takeW (i := 37) (v := .bool false) rfl (by kernel_rfl) (by kernel_rfl) (by kernel_rfl) (fun _ _ _ h => h) rfl (fun W1 hW1 => by cases bf <;> go_simp) (s7) ?_
        simp only [Act.put, List.setIfInBounds_toArray, List.set_cons_zero, List.set_cons_succ]
        refine held_take (i := 38) (v := .bool false) rfl (by kernel_rfl) (by kernel_rfl) (by kernel_rfl) (fun _ _ _ h => h) rfl (fun W1 hW1 => by go_simp) (s7) ?_
        simp only [Act.put, List.setIfInBounds_toArray, List.set_cons_zero, List.set_cons_succ]
        refine held_take (i := 39) (v := .bool false) rfl (by kernel_rfl) (by kernel_rfl) (by kernel_rfl) (fun _ _ _ h => h) rfl (fun W1 hW1 => by go_simp) (s7) ?_
        simp only [Act.put, List.setIfInBounds_toArray, List.set_cons_zero, List.set_cons_succ]
        refine held_takeW (i := 40) (v := .pointer (some ⟨b6, 2, none⟩)) rfl (by kernel_rfl) (by kernel_rfl) (by kernel_rfl) (fun _ _ _ h => h) rfl (fun W1 hW1 => by go_simp) (s7) ?_
        simp only [Act.put, List.setIfInBounds_toArray, List.set_cons_zero, List.set_cons_succ]
        refine held_takeW (i := 41) (v := .int .i64 yn) rfl (by kernel_rfl) (by kernel_rfl) (by kernel_rfl) (fun _ _ _ h => h) rfl (fun W1 hW1 => exec_load _ _ _ _ rfl rfl (run_loadCell W1 _ _ _ (cY2 W1 hW1) (agg_no _ (by kernel_rfl)))) (s7) ?_
        simp only [Act.put, List.setIfInBounds_toArray, List.set_cons_zero, List.set_cons_succ]
        refine held_takeW (i := 42) (v := .pointer (some ⟨b8, 2, none⟩)) rfl (by kernel_rfl) (by kernel_rfl) (by kernel_rfl) (fun _ _ _ h => h) rfl (fun W1 hW1 => by go_simp) (s7) ?_
        simp only [Act.put, List.setIfInBounds_toArray, List.set_cons_zero, List.set_cons_succ]
        refine held_takeW (i := 43) (v := .int .i64 yn) rfl (by kernel_rfl) (by kernel_rfl) (by kernel_rfl) (fun _ _ _ h => h) rfl (fun W1 hW1 => exec_load _ _ _ _ rfl rfl (run_loadCell W1 _ _ _ (cX2 W1 hW1) (agg_no _ (by kernel_rfl)))) (s7) ?_
        simp only [Act.put, List.setIfInBounds_toArray, List.set_cons_zero, List.set_cons_succ]
        refine held_takeW (i := 44) (v := .bool false) rfl (by kernel_rfl) (by kernel_rfl) (by kernel_rfl) (fun _ _ _ h => h) rfl (fun W1 hW1 => by go_simp) (s7) ?_
        simp only [Act.put, List.setIfInBounds_toArray, List.set_cons_zero, List.set_cons_succ]
        refine held_take (i := 45) (v := .bool false) rfl (by kernel_rfl) (by kernel_rfl) (by kernel_rfl) (fun _ _ _ h => h) rfl (fun W1 hW1 => by go_simp) (s7) ?_
        simp only [Act.put, List.setIfInBounds_toArray, List.set_cons_zero, List.set_cons_succ]
        refine held_take (i := 46) (v := .bool false) rfl (by kernel_rfl) (by kernel_rfl) (by kernel_rfl) (fun _ _ _ h => h) rfl (fun W1 hW1 => by go_simp) (s7) ?_
        simp only [Act.put, List.setIfInBounds_toArray, List.set_cons_zero, List.set_cons_succ]
        refine held_takeW (i := 47) (v := .pointer (some ⟨b6, 3, none⟩)) rfl (by kernel_rfl) (by kernel_rfl) (by kernel_rfl) (fun _ _ _ h => h) rfl (fun W1 hW1 => by go_simp) (s7) ?_
        simp only [Act.put, List.setIfInBounds_toArray, List.set_cons_zero, List.set_cons_succ]
        refine held_takeW (i := 48) (v := .bool yb) rfl (by kernel_rfl) (by kernel_rfl) (by kernel_rfl) (fun _ _ _ h => h) rfl (fun W1 hW1 => exec_load _ _ _ _ rfl rfl (run_loadCell W1 _ _ _ (cY3 W1 hW1) (agg_no _ (by kernel_rfl)))) (s7) ?_
        simp only [Act.put, List.setIfInBounds_toArray, List.set_cons_zero, List.set_cons_succ]
        refine held_takeW (i := 49) (v := .pointer (some ⟨b8, 3, none⟩)) rfl (by kernel_rfl) (by kernel_rfl) (by kernel_rfl) (fun _ _ _ h => h) rfl (fun W1 hW1 => by go_simp) (s7) ?_
        simp only [Act.put, List.setIfInBounds_toArray, List.set_cons_zero, List.set_cons_succ]
        refine held_takeW (i := 50) (v := .bool yb) rfl (by kernel_rfl) (by kernel_rfl) (by kernel_rfl) (fun _ _ _ h => h) rfl (fun W1 hW1 => exec_load _ _ _ _ rfl rfl (run_loadCell W1 _ _ _ (cX3 W1 hW1) (agg_no _ (by kernel_rfl)))) (s7) ?_
        simp only [Act.put, List.setIfInBounds_toArray, List.set_cons_zero, List.set_cons_succ]
        refine held_takeW (i := 51) (v := .bool false) rfl (by kernel_rfl) (by kernel_rfl) (by kernel_rfl) (fun _ _ _ h => h) rfl (fun W1 hW1 => by cases yb <;> go_simp) (s7) ?_
        simp only [Act.put, List.setIfInBounds_toArray, List.set_cons_zero, List.set_cons_succ]
        refine held_take (i := 52) (v := .bool false) rfl (by kernel_rfl) (by kernel_rfl) (by kernel_rfl) (fun _ _ _ h => h) rfl (fun W1 hW1 => by go_simp) (s7) ?_
        simp only [Act.put, List.setIfInBounds_toArray, List.set_cons_zero, List.set_cons_succ]
        refine wpAnyH_done (by kernel_rfl) ?_ _
        have TE := hid (T8.out.later h7)
        have SE := hid (S8.out.later h7)
        have KE := hid (K8.out.trans h7)
        clear cZ cP cN cY2 cY3 cX2 cX3 s0 s1 s2 s3 s4 s5 s6 s7 k1 k2 k3 k4 k5 k6 k7 h1 h2 h3 h4 h5 h6 h7 o1 o2 o6 n6 e7 RB LB NB
        go_wp2_with fail
        go_roundw
        case rel => exact ⟨i + 1, rx, by go_num, by omega, TE, SE, GX, LX, KE⟩
        case measure => simp [intOf] <;> omega
    · obtain rfl : i = ds.length := by omega
      have GX := GG
      have HRX := hid (show rs.length ≤ 1000 by have := LL.out; omega)
      have HRY := hid (show rs.length ≤ 255 by have := LL.out; omega)
      obtain ⟨bl, hbl⟩ : ∃ z, z = tokB rs rs.length := ⟨_, rfl⟩
      have TL := hid (show bl.length ≤ 35184372088832 by rw [hbl, tokB_len _ _ (Nat.le_refl _)]; have := HRY.out; omega)
      have BT := hid (show bytesTk rs = bl by unfold bytesTk; rw [(wr_good GX.out HRY.out rs.length (Nat.le_refl _)).1, hbl]; rfl)
      have RG := hid (show rdAll (bl, 0) = (rs, ([], 0)) by rw [hbl]; exact rd_good GX.out HRY.out)
      have LB := lBytes15_any TT.out
      rw [BT.out] at LB
      clear hbl
      go_wp2_with fail
      refine LB.mono ?_
      rintro e w1 ⟨a1, c1, rfl, o1, n1, k1⟩
      have O1 := hid o1
      have T1 := hid (TT.out.later k1)
      have S1 := hid (SS.out.later k1)
      have K1 := hid (KK.out.trans k1)
      clear LB o1 n1 k1
      go_wp2_with fail
      refine (newEye_any w1 w.heap.size (.slice a1 bl.length c1) bl O1.out K1.out.size TL.out).mono ?_
      rintro e w2 ⟨p, ve, rfl, hp, he, k2, _⟩
      have HP := hid hp
      have E2 : Hid (EyL w2 w2 w.heap.size p ve (bl, 0)) := hid ⟨ve, he, SameBlk.refl _, fun g hg => off_oldB he.row hg⟩
      have T2 := hid (T1.out.later k2)
      have S2 := hid (S1.out.later k2)
      have K2 := hid (K1.out.trans k2)
      have HPW := hid (show w.heap.size ≤ p from Nat.le_trans K1.out.size hp)
      have PQ := hid (show p ≠ q by have := T1.out.lt; omega)
      have HTL := hid T2.out.lt
      have HSL := hid S2.out.lt
      have NWP := hid (show w1.heap.size ≤ p from hp)
      have KQ2 := hid k2
      clear hp he k2
      go_wp2_with fail
      have A := read15_any [q, pm] w2 (by have := HTL.out; have := HSL.out; simp; omega) w.heap.size p ve (bl, 0) E2.out (Nat.le_refl _)
      rw [RG.out] at A
      refine A.mono ?_
      rintro e w3 ⟨k3, hres⟩
      rcases hres with ⟨_, qu, hqu, rfl, t3, e3, g3⟩ | ⟨hz, _⟩
      · have TU := hid t3
        have T3 := hid (T1.out.keepN KQ2.out k3 NWP.out)
        have S3 := hid (S1.out.keepN KQ2.out k3 NWP.out)
        have K3 := hid (K2.out.trans' k3 (S := []) (fun i hi hm => by have := HPW.out; simp at hm; omega))
        obtain ⟨az, cz, hz⟩ := S3.out
        have CZ := hid hz.cell.1
        have LZ := hid hz.lt
        have OZ := hid hz.own.at
        clear hz t3 e3 g3 k3 A
        go_wp2_with fail
        refine wp_region_any (by kernel_rfl) (wpAny_of_held (S := KpS [] w3.heap.size w3.drew) _ _ _ _ ?_)
        change wpAnyH _ _ _ _ _ _ _ _ w3.drew
        have s0 : KpS [] w3.heap.size w3.drew w3.drew := KpS.refl _ _ _
        have cZ : ∀ W1, KpS [] w3.heap.size w3.drew W1 → W1.cell? ⟨pm, 0, none⟩ = some (.slice az rs.length cz) := fun W1 h => h.cell (by rw [World.cell?_drew]; exact CZ.out) LZ.out (by simp)
        refine held_take (i := 0) (v := .int .i64 0) rfl (by kernel_rfl) (by kernel_rfl) (by kernel_rfl) (fun _ _ _ h => h) rfl (fun W1 hW1 => rfl) (KpS.refl _ _ _) ?_
        simp only [Act.put, List.setIfInBounds_toArray, List.set_cons_zero, List.set_cons_succ]
        refine held_take (i := 1) (v := .bool true) rfl (by kernel_rfl) (by kernel_rfl) (by kernel_rfl) (fun _ _ _ h => h) rfl (fun W1 hW1 => by go_simp) (KpS.refl _ _ _) ?_
        simp only [Act.put, List.setIfInBounds_toArray, List.set_cons_zero, List.set_cons_succ]
        refine held_take (i := 2) (v := .bool true) rfl (by kernel_rfl) (by kernel_rfl) (by kernel_rfl) (fun _ _ _ h => h) rfl (fun W1 hW1 => by go_simp) (KpS.refl _ _ _) ?_
        simp only [Act.put, List.setIfInBounds_toArray, List.set_cons_zero, List.set_cons_succ]
        refine held_takeW (i := 3) (v := .pointer (some ⟨qu, 0, none⟩)) rfl (by kernel_rfl) (by kernel_rfl) (by kernel_rfl) (fun _ _ _ h => h) rfl (fun W1 hW1 => rfl) (KpS.refl _ _ _) ?_
        simp only [Act.put, List.setIfInBounds_toArray, List.set_cons_zero, List.set_cons_succ]
        refine held_takeW (i := 6) (v := .pointer (some ⟨pm, 0, none⟩)) rfl (by kernel_rfl) (by kernel_rfl) (by kernel_rfl) (fun _ _ _ h => h) rfl (fun W1 hW1 => rfl) (KpS.refl _ _ _) ?_
        simp only [Act.put, List.setIfInBounds_toArray, List.set_cons_zero, List.set_cons_succ]
        refine held_takeW (i := 7) (v := .pointer (some ⟨pm, 0, none⟩)) rfl (by kernel_rfl) (by kernel_rfl) (by kernel_rfl) (fun _ _ _ h => h) rfl (fun W1 hW1 => by go_simp) (KpS.refl _ _ _) ?_
        simp only [Act.put, List.setIfInBounds_toArray, List.set_cons_zero, List.set_cons_succ]
        refine held_takeW (i := 8) (v := .pointer (some ⟨pm, 0, none⟩)) rfl (by kernel_rfl) (by kernel_rfl) (by kernel_rfl) (fun _ _ _ h => h) rfl (fun W1 hW1 => by go_simp) (KpS.refl _ _ _) ?_
        simp only [Act.put, List.setIfInBounds_toArray, List.set_cons_zero, List.set_cons_succ]
        refine held_takeW (i := 9) (v := .slice az rs.length cz) rfl (by kernel_rfl) (by kernel_rfl) (by kernel_rfl) (fun _ _ _ h => h) rfl (fun W1 hW1 => exec_load _ _ _ _ rfl rfl (run_loadCell W1 _ _ _ (cZ W1 hW1) (agg_no _ (by kernel_rfl)))) (KpS.refl _ _ _) ?_
        simp only [Act.put, List.setIfInBounds_toArray, List.set_cons_zero, List.set_cons_succ]
        refine held_doW (i := 4) (by kernel_rfl) rfl rfl (wp_enter (f := 30) (args := #[.pointer (some ⟨qu, 0, none⟩)]) (by go_simp) (rowsF_any (TU.out.later (Keeps.refl [] w3).drew) [] (by simp)) ?_)
        rintro e v1 ⟨a1, c1, rfl, o1, k1⟩
        have s1 : KpS [] w3.heap.size w3.drew v1 := s0.keeps k1 s0.size (by simp)
        have h1 : Keeps [] w3 v1 := (Keeps.refl [] w3).drew.trans k1
        refine ⟨_, rfl, s1, ?_⟩
        simp only [Act.put, List.setIfInBounds_toArray, List.set_cons_zero, List.set_cons_succ]
        refine held_doW (i := 5) (by kernel_rfl) rfl rfl (wp_enter (f := 29) (args := #[.slice a1 rs.length c1]) (by go_simp) (model_any _ [] _ rs o1.at HRX.out) ?_)
        rintro e v2 ⟨a2, c2, rfl, o2, k2⟩
        have s2 : KpS [] w3.heap.size w3.drew v2 := s1.keeps k2 s1.size (by simp)
        have h2 : Keeps [] w3 v2 := h1.trans k2
        refine ⟨_, rfl, s2, ?_⟩
        simp only [Act.put, List.setIfInBounds_toArray, List.set_cons_zero, List.set_cons_succ]
        refine held_doW (i := 10) (by kernel_rfl) rfl rfl (wp_enter (f := 28) (args := #[.slice a2 rs.length c2, .slice az rs.length cz]) (by go_simp) (sameK_any _ [] [] _ _ rs o2 (OZ.out.later h2) HRX.out) ?_)
        rintro e v3 ⟨rfl, k3⟩
        have s3 : KpS [] w3.heap.size w3.drew v3 := s2.keeps k3 s2.size (by simp)
        have h3 : Keeps [] w3 v3 := h2.trans k3
        refine ⟨_, rfl, s3, ?_⟩
        simp only [Act.put, List.setIfInBounds_toArray, List.set_cons_zero, List.set_cons_succ]
        refine held_take (i := 11) (v := .bool true) rfl (by kernel_rfl) (by kernel_rfl) (by kernel_rfl) (fun _ _ _ h => h) rfl (fun W1 hW1 => by go_simp) (s3) ?_
        simp only [Act.put, List.setIfInBounds_toArray, List.set_cons_zero, List.set_cons_succ]
        refine held_take (i := 12) (v := .bool true) rfl (by kernel_rfl) (by kernel_rfl) (by kernel_rfl) (fun _ _ _ h => h) rfl (fun W1 hW1 => by go_simp) (s3) ?_
        simp only [Act.put, List.setIfInBounds_toArray, List.set_cons_zero, List.set_cons_succ]
        refine held_takeW (i := 13) (v := .pointer (some ⟨q, 0, none⟩)) rfl (by kernel_rfl) (by kernel_rfl) (by kernel_rfl) (fun _ _ _ h => h) rfl (fun W1 hW1 => rfl) (s3) ?_
        simp only [Act.put, List.setIfInBounds_toArray, List.set_cons_zero, List.set_cons_succ]
        refine held_takeW (i := 17) (v := .pointer (some ⟨pm, 0, none⟩)) rfl (by kernel_rfl) (by kernel_rfl) (by kernel_rfl) (fun _ _ _ h => h) rfl (fun W1 hW1 => rfl) (s3) ?_
        simp only [Act.put, List.setIfInBounds_toArray, List.set_cons_zero, List.set_cons_succ]
        refine held_takeW (i := 18) (v := .pointer (some ⟨pm, 0, none⟩)) rfl (by kernel_rfl) (by kernel_rfl) (by kernel_rfl) (fun _ _ _ h => h) rfl (fun W1 hW1 => by go_simp) (s3) ?_
        simp only [Act.put, List.setIfInBounds_toArray, List.set_cons_zero, List.set_cons_succ]
        refine held_takeW (i := 19) (v := .pointer (some ⟨pm, 0, none⟩)) rfl (by kernel_rfl) (by kernel_rfl) (by kernel_rfl) (fun _ _ _ h => h) rfl (fun W1 hW1 => by go_simp) (s3) ?_
        simp only [Act.put, List.setIfInBounds_toArray, List.set_cons_zero, List.set_cons_succ]
        refine held_takeW (i := 20) (v := .slice az rs.length cz) rfl (by kernel_rfl) (by kernel_rfl) (by kernel_rfl) (fun _ _ _ h => h) rfl (fun W1 hW1 => exec_load _ _ _ _ rfl rfl (run_loadCell W1 _ _ _ (cZ W1 hW1) (agg_no _ (by kernel_rfl)))) (s3) ?_
        simp only [Act.put, List.setIfInBounds_toArray, List.set_cons_zero, List.set_cons_succ]
        refine held_doW (i := 14) (by kernel_rfl) rfl rfl (wp_enter (f := 36) (args := #[.pointer (some ⟨q, 0, none⟩)]) (by go_simp) (clone15_any (T3.out.later h3)) ?_)
        rintro e v4 ⟨q4, rfl, hq4, t4, k4⟩
        have s4 : KpS [] w3.heap.size w3.drew v4 := s3.keeps k4 s3.size (by simp)
        have h4 : Keeps [] w3 v4 := h3.trans k4
        refine ⟨_, rfl, s4, ?_⟩
        simp only [Act.put, List.setIfInBounds_toArray, List.set_cons_zero, List.set_cons_succ]
        refine held_doW (i := 15) (by kernel_rfl) rfl rfl (wp_enter (f := 30) (args := #[.pointer (some ⟨q4, 0, none⟩)]) (by go_simp) (rowsF_any t4 [] (by simp)) ?_)
        rintro e v5 ⟨a5, c5, rfl, o5, k5⟩
        have s5 : KpS [] w3.heap.size w3.drew v5 := s4.keeps k5 s4.size (by simp)
        have h5 : Keeps [] w3 v5 := h4.trans k5
        refine ⟨_, rfl, s5, ?_⟩
        simp only [Act.put, List.setIfInBounds_toArray, List.set_cons_zero, List.set_cons_succ]
        refine held_doW (i := 16) (by kernel_rfl) rfl rfl (wp_enter (f := 29) (args := #[.slice a5 rs.length c5]) (by go_simp) (model_any _ [] _ rs o5.at HRX.out) ?_)
        rintro e v6 ⟨a6, c6, rfl, o6, k6⟩
        have s6 : KpS [] w3.heap.size w3.drew v6 := s5.keeps k6 s5.size (by simp)
        have h6 : Keeps [] w3 v6 := h5.trans k6
        refine ⟨_, rfl, s6, ?_⟩
        simp only [Act.put, List.setIfInBounds_toArray, List.set_cons_zero, List.set_cons_succ]
        refine held_doW (i := 21) (by kernel_rfl) rfl rfl (wp_enter (f := 28) (args := #[.slice a6 rs.length c6, .slice az rs.length cz]) (by go_simp) (sameK_any _ [] [] _ _ rs o6 (OZ.out.later h6) HRX.out) ?_)
        rintro e v7 ⟨rfl, k7⟩
        have s7 : KpS [] w3.heap.size w3.drew v7 := s6.keeps k7 s6.size (by simp)
        have h7 : Keeps [] w3 v7 := h6.trans k7
        refine ⟨_, rfl, s7, ?_⟩
        simp only [Act.put, List.setIfInBounds_toArray, List.set_cons_zero, List.set_cons_succ]
        refine held_take (i := 22) (v := .bool true) rfl (by kernel_rfl) (by kernel_rfl) (by kernel_rfl) (fun _ _ _ h => h) rfl (fun W1 hW1 => by go_simp) (s7) ?_
        simp only [Act.put, List.setIfInBounds_toArray, List.set_cons_zero, List.set_cons_succ]
        refine held_take (i := 23) (v := .bool true) rfl (by kernel_rfl) (by kernel_rfl) (by kernel_rfl) (fun _ _ _ h => h) rfl (fun W1 hW1 => by go_simp) (s7) ?_
        simp only [Act.put, List.setIfInBounds_toArray, List.set_cons_zero, List.set_cons_succ]
        refine wpAnyH_done (by kernel_rfl) ?_ _
        have KE := hid (K3.out.trans h7)
        clear cZ s0 s1 s2 s3 s4 s5 s6 s7 k1 k2 k3 k4 k5 k6 k7 h1 h2 h3 h4 h5 h6 h7 o1 o2 t4 o5 o6
        go_wp2_with fail
        go_ret
        exact ⟨rfl, KE.out⟩
      · exact absurd rfl hz
end Go.Proofs.Ytjohikekhgcepaa


/- TokensPlays: the lift of its walk: whatever is opened, closed, dropped: each answer, all rows, the bytes, read back they are the same. -/
namespace Go.Proofs.Ytjohikekhgcepaa
open Go.ChangeShapes Go.WideShapes Go.ChangeAt Go.RowKit

set_option maxRecDepth 100000 in
theorem plays15_lifted (os : Os) (started : os.Started) (H : Type) (enc : TypeId × Value → H) :
    ReturnsInHanded {} Try.checked os 4 .any (Rows.tokensPlaysSpec.pre6 enc Try.prog Try.f4 Rows.tokensPlaysRow.domain false) (Rows.tokensPlaysSpec.post enc Try.prog Try.f4 false true false false) := by
  refine returnsInHanded_of_change (C := Try.checked) own started (by kernel_rfl) Try.func4
    (ChangeSpec.witness6 (enc := enc) (C := Try.checked) false ⟨#[], #[.slice none 0 0], []⟩ 8 (by kernel_rfl) (by kernel_rfl) (by kernel_rfl) (by kernel_rfl)) ?_
  intro W base args ds gs before hval0 hW hcnd _
  have hval : ∀ (j : Nat) t v, Try.f4.params[j]? = some t → args[j]? = some v → Value.okWide Try.prog W .any base t v := hval0
  have hW' := hW
  obtain ⟨p, q, hA0, hV, rfl, hfz, hnd⟩ := hW
  have hA : DataW.TrodAll enc Try.prog W 0 (fun _ => true) true Try.f4.params.toList args.toList ds p := hA0
  rw [Try.params4] at hA hval
  obtain ⟨v0, vs0, d0, ds0, p0, q0, hargs, rfl, rfl, h0, r0⟩ := trodAll_cons hA
  obtain ⟨rfl, rfl, rfl⟩ := trodAll_nil r0
  obtain rfl : args = #[v0] := by cases args; simp_all
  obtain ⟨rfl, rfl⟩ := trodVars_none hV
  have k0 := h0
  have lt0 : ∀ x ∈ p0, x.block < W.heap.size := by obtain ⟨m, hm⟩ := k0; exact DataW.trod_lt m _ _ _ hm
  obtain ⟨a0, l0, c0, rfl⟩ := okWide_slice Try.underlying38 (hval 0 38 v0 rfl rfl)
  obtain ⟨x0, y0⟩ : ∃ zs, DdsAt W (.slice a0 l0 c0) zs := by
    obtain ⟨m, hm⟩ := h0
    obtain ⟨v, zs, e, hr⟩ := deeds15_of_trod hm
    simp [Value.cells] at e
    subst e
    exact ⟨zs, hr⟩
  clear hA0 hval0
  refine (plays15_any W _ x0 y0).mono fun e W' ⟨he, hk⟩ => ?_
  subst he
  have bel : Below W.heap.size W W' := hk.below (Nat.le_refl _) (by simp)
  exact ⟨_, rfl, _, _, _, [], _, [], hW', trodAll_mk1 (shut_bool Try.underlying4 _), (trodAll_cons_mk (Below.trod laidOut (by kernel_rfl) (of_decide_eq_true (by kernel_rfl)) k0 bel lt0) trodAll_mk0), rfl, bel.frame _, fun h => by cases h⟩

theorem plays15_holds : Rows.TokensPlaysSaid :=
  OpenClaim.holds_of_wide 4 Try.f4 rfl rfl rfl rfl rfl rfl rfl ⟨rfl, rfl, rfl, rfl, rfl⟩ rfl rfl rfl rfl rfl (by kernel_rfl) Try.func4 (by kernel_rfl)
    (of_decide_eq_true (by kernel_rfl)) (by unfold Func.isWrapper; rw [if_neg (of_decide_eq_false (by kernel_rfl))]; exact ⟨rfl, rfl⟩)
    (fun os started H enc _ => plays15_lifted os started H enc)
end Go.Proofs.Ytjohikekhgcepaa
