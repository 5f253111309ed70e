/- layout: the walk of the law LayoutBack. -/
import Derived.Test.YtoglcohdanpciaaLyJ7
namespace Go.Proofs.Ytoglcohdanpciaa
open Go.RowKit Go.Shelf
set_option maxRecDepth 100000
set_option linter.unusedSimpArgs false
set_option linter.unusedVariables false

set_option maxHeartbeats 25600000 in
theorem yBack_any (w : World) (m : Int) (hm : -9223372036854775808 ≤ m ∧ m ≤ 9223372036854775807) (v : Value) (d : List Int) (hd : RowAt w v d) (hl : d.length ≤ 140737488351232) (p0 q0 : Nat) (hp : p0 ≤ 255) (hq : q0 ≤ 255) :
    Calls Try.prog 7 #[.int .i64 m, v, .agg #[.int .u8 p0, .int .u8 q0]] w fun e w' => e = .returned (.bool true) ∧ Keeps [] w w' := by
  obtain ⟨va, vc, rfl, _⟩ := id hd
  have HD := hid hd
  obtain ⟨n, hn⟩ : ∃ n : Nat, 3 + m % 14 = (n : Int) := ⟨(3 + m % 14).toNat, by omega⟩
  have n3 : 3 ≤ n := by omega
  have n16 : n ≤ 16 := by omega
  obtain ⟨hmay, sn0, sn1⟩ := speM_may m
  have cb := and64 m 3 3 rfl (by decide)
  have sc0 : 0 ≤ (speM m).c := cb.1
  have MAY := hid hmay
  have SM := hid (fun W => yStripe_any W m hm)
  have SV := hid (fun W => yServers_any W m)
  obtain ⟨s, hs⟩ : ∃ s, s = speM m := ⟨_, rfl⟩
  rw [← hs] at SM MAY sn0 sc0
  rw [hn] at SV
  obtain ⟨sa, hsa⟩ : ∃ a : Nat, s.n + s.c = (a : Int) := ⟨(s.n + s.c).toNat, by omega⟩
  have HSA := hid hsa
  clear hn hm hs hd hmay sn0 sn1 cb sc0 hsa
  obtain ⟨w0, hw0⟩ : ∃ x, x = w.alloc (.cells #[.int .u8 p0, .int .u8 q0] 61) := ⟨_, rfl⟩
  have HW0 := hid hw0
  have k0 : Keeps [] w w0 := by rw [hw0]; exact (Keeps.refl [] _).alloc _
  have K0 := hid k0
  have HD0 := hid (HD.out.keep k0 (by intro _ _ _ _ _; simp))
  have b0 : w0.heap[w.heap.size]? = some (.cells #[.int .u8 p0, .int .u8 q0] 61 (0, 0)) := by rw [hw0]; exact heap_alloc_new w _
  have c0 := (five_cells b0 0).1
  have c1 := (five_cells b0 1).1
  simp only [List.getElem?_toArray, List.getElem?_cons_zero, List.getElem?_cons_succ] at c0 c1
  have C0 := hid c0
  have C1 := hid c1
  have A1 := hid (yAwake_any w0)
  clear hw0 k0 c0 c1 b0
  have SM2 := hid SM.out
  go_enter Try.func7, Try.ntmps7
  go_wp2_with fail
  rw [← HW0.out]
  refine A1.out.mono ?_
  clear A1
  rintro e w1 ⟨rfl, k1⟩
  have K1 := hid (K0.out.trans k1)
  have C0' := hid (k1.cell C0.out (by simp))
  have C1' := hid (k1.cell C1.out (by simp))
  have HD1 := hid (HD0.out.keep k1 (by intro _ _ _ _ _; simp))
  clear k1 C0 C1 HD0 K0 HW0 HD
  go_wp2_with fail
  refine (SV.out w1).mono ?_
  clear SV
  rintro e w2 ⟨rfl, rfl⟩
  go_wp2_with fail
  refine (SM.out w1).mono ?_
  clear SM SM2
  rintro e w2 ⟨rfl, k2⟩
  have K2 := hid (K1.out.trans k2)
  have C02 := hid (k2.cell C0'.out (by simp))
  have C12 := hid (k2.cell C1'.out (by simp))
  have HD2 := hid (HD1.out.keep k2 (by intro _ _ _ _ _; simp))
  clear k2 K1 C0' C1' HD1
  unfold speV
  by_cases hbig : 400 * (n - 1) < d.length
  · have hb' : 400 * ((n : Int) - 1) < (d.length : Int) := by omega
    clear hl
    go_wp2_with fail
    go_ret
    exact ⟨rfl, K2.out.alloc _⟩
  have hb' : ¬ (400 * ((n : Int) - 1) < (d.length : Int)) := by omega
  by_cases h2 : 2000 < d.length
  · clear hl
    go_wp2_with fail
    go_ret
    exact ⟨rfl, K2.out.alloc _⟩
  obtain ⟨w3, hw3⟩ : ∃ x, x = w2.alloc (.cells #[.int .i64 s.c, .int .i64 s.l, .int .i64 s.n] 30) := ⟨_, rfl⟩
  have HW3 := hid hw3
  have k3 : Keeps [] w2 w3 := by rw [hw3]; exact (Keeps.refl [] _).alloc _
  have G3 := hid (show w3.rangeAt w2.heap.size 0 s.cells by rw [hw3]; exact range_cells (heap_alloc_new w2 _))
  have K3 := hid (K2.out.trans k3)
  have C03 := hid (k3.cell C02.out (by simp))
  have C13 := hid (k3.cell C12.out (by simp))
  have HD3 := hid (HD2.out.keep k3 (by intro _ _ _ _ _; simp))
  obtain ⟨b, hb⟩ : ∃ b, b = w2.heap.size := ⟨_, rfl⟩
  have hMOST := hid (show d.length ≤ 400 * (n - 1) by omega)
  have hDL := hid (show d.length ≤ 2000 by omega)
  have HC0 := lCut_any w3 s _ d n HD3.out (by omega)
  rw [cut_ok MAY.out n3 n16 hMOST.out] at HC0
  have HC := hid HC0
  have fl := fragsL_len s d n
  obtain ⟨F, hF⟩ : ∃ F, F = fragsL s d n := ⟨_, rfl⟩
  rw [← hF] at HC fl
  have HF := hid hF
  have DB := hid HD3.out.bytes
  clear hw3 k3 K2 C02 C12 HD2 HC0 hF
  go_wp2_with (first | (refine wpList_isW rfl _ _ (exec_load _ _ _ _ rfl rfl (loadSpe _ w2.heap.size 0 s (by rw [← HW3.out]; exact G3.out))) ?_) | fail)
  rw [← HW3.out]
  refine HC.out.mono ?_
  clear HC
  rintro e w5 ⟨k5, hx⟩
  rcases hx with ⟨h0, _⟩ | ⟨-, g, vs, rfl, hbk, hh, hg⟩
  · exact absurd rfl h0
  have K5 := hid (K3.out.trans k5)
  have C05 := hid (k5.cell C03.out (by simp))
  have C15 := hid (k5.cell C13.out (by simp))
  have HD5 := hid (HD3.out.keep k5 (by intro _ _ _ _ _; simp))
  have G5 := hid (show w5.rangeAt w2.heap.size 0 s.cells from fun i u hu => k5.cell (G3.out i u hu) (by simp))
  rw [← hb] at G5 ⊢
  have HB := hid hbk
  have HH := hid hh
  have VL := hid (show vs.length = n from (show vs.length = F.length from hh.len).trans fl)
  simp only [fl]
  clear k5 hbk hh hg C03 C13 HD3 G3 HW3 K3 hb
  go_wp2_with (first | (refine wpList_is rfl _ _ (exec_makeBools _ n rfl rfl n16) ?_) | fail)
  obtain ⟨i0, hi0, hz0, hz1, hz2⟩ := info_parts info25
  have I0 := hid hi0
  have Z0 := hid hz0
  have Z1 := hid hz1
  have Z2 := hid hz2
  clear hi0 hz0 hz1 hz2
  obtain ⟨gs, hgs⟩ : ∃ x, x = w5.heap.size := ⟨_, rfl⟩
  obtain ⟨w6, hw6⟩ : ∃ x, x = w5.alloc (.cells (Array.replicate n (Value.bool false)) 4) := ⟨_, rfl⟩
  have HW6 := hid hw6
  have k6 : Keeps [] w5 w6 := by rw [hw6]; exact (Keeps.refl [] _).alloc _
  have HGS := hid hgs
  have B6 := hid (show w6.heap[gs]? = some (.cells (((seenL n (plN sa n) 0).map Value.bool).toArray) 4 (0, 0)) by rw [hw6, hgs, ← bools_none]; exact heap_alloc_new w5 _)
  have LG := hid (show g < w5.heap.size from lt_of_block HB.out)
  have LBB := hid (show b < w5.heap.size from World.block_lt_of_cell? _ _ (G5.out 0 _ rfl))
  have LW := hid (show w.heap.size < w5.heap.size from World.block_lt_of_cell? _ _ C05.out)
  -- what stays as it is while seen is written
  have ST := hid (show ∀ wr, Keeps [gs] w5 wr → wr.heap[g]? = some (.cells vs.toArray 34 (0, 0)) ∧ wr.rangeAt b 0 s.cells ∧ RowAt wr (.slice va d.length vc) d ∧ (∀ j (h : j < vs.length), RowAt wr vs[j] (F.getD j [])) ∧ wr.cell? ⟨w.heap.size, 0, none⟩ = some (.int .u8 p0) ∧ wr.cell? ⟨w.heap.size, 1, none⟩ = some (.int .u8 q0) from fun wr k =>
    ⟨(k.block g LG.out (by have := LG.out; simp; omega)).trans HB.out, fun i u hu => k.cell (G5.out i u hu) (by have := LBB.out; simp; omega), HD5.out.keep k (off_oldB HD5.out (by omega)), fun j h => (HH.out.row j h).keep k (off_oldB (HH.out.row j h) (by omega)), k.cell C05.out (by have := LW.out; simp; omega), k.cell C15.out (by have := LW.out; simp; omega)⟩)
  have KS6 := hid (k6.mono (S' := [gs]) (by simp))
  have K5' := hid K5.out
  have SL := hid HH.out.slices
  have FW := hid HH.out.few
  have LF := hid fl
  have FS := hid (show ∀ l ∈ F, l.length ≤ 412 from fun l hl' => by
    obtain ⟨k, hk, rfl⟩ := mem_getD hl'
    rw [fl] at hk
    rw [HF.out]
    exact frag_len n3 hk hMOST.out)
  rw [← HGS.out, ← HW6.out]
  clear hw6 k6 hgs G5 C05 C15 HD5 LBB LG
  go_loopw [12] (fun iv wr => ∃ (i : Nat), i ≤ n ∧ iv = .int .i64 (i : Int) ∧ Hid (wr.heap[gs]? = some (.cells (((seenL n (plN sa n) i).map Value.bool).toArray) 4 (0, 0))) ∧ Hid (Keeps [gs] w5 wr)) (fun iv _ => n - (intOf iv).toNat)
  case atStart => exact ⟨0, by omega, rfl, B6, KS6⟩
  case round =>
    obtain ⟨i, hi, rfl, HBS, HK⟩ := hrel
    by_cases hlt : i < n
    · obtain ⟨s1, s2, s3, s4, -, -⟩ := ST.out wr HK.out
      have HSr := hid s2
      have LG2 := hid (lt_of_block HBS.out)
      have hvl : i < vs.length := by rw [VL.out]; exact hlt
      obtain ⟨ua, uc, hu, _⟩ := s4 i hvl
      have HRW := hid (show RowAt wr (.slice ua (F.getD i []).length uc) (F.getD i []) by have := s4 i hvl; rw [hu] at this; exact this)
      have cl := (five_cells s1 i).1
      rw [List.getElem?_toArray, List.getElem?_eq_getElem hvl, hu] at cl
      have CL := hid cl
      have LGW := hid (show g < wr.heap.size from lt_of_block s1)
      have hflen := frag_len (s := s) (d := d) (n := n) (i := i) n3 hlt hMOST.out
      have hj1 := join_one (s := s) MAY.out n3 n16 hMOST.out DB.out hlt
      have hj2 := mend_one (s := s) MAY.out n3 n16 hMOST.out DB.out hlt
      rw [← HF.out] at hflen hj1 hj2
      have HJ1 := hid hj1
      have HJ2 := hid hj2
      obtain ⟨fi, hfi⟩ : ∃ x, x = F.getD i [] := ⟨_, rfl⟩
      rw [← hfi] at HRW hflen HJ2
      rw [← hfi] at CL
      have CLl := CL.out
      have HFL := hid hflen
      have HP0 := lplace_any wr s (i : Int) n
      rw [place_is HSA.out n3 n16 i] at HP0
      have hplt : plN sa n i < n := plN_lt n3
      have hcell := seenL_get (n := n) (f := plN sa n) (k := i) hplt (fun j hj => plN_ne hj hlt)
      have hset := seenL_set (n := n) (f := plN sa n) (k := i)
      obtain ⟨p, hp'⟩ : ∃ p, p = plN sa n i := ⟨_, rfl⟩
      rw [← hp'] at HP0 hplt hcell hset
      have HP := hid HP0
      have HSET := hid hset
      have HCELL := hid hcell
      have hi448 : decide (448 < (fi.length : Int)) = false := decide_eq_false (by omega)
      have HU := hid hu
      have HFI := hid hfi
      clear HP0 hcell hset hp' hj1 hj2 cl hu s1 s2 s3 s4 CLl hfi
      go_wp2_with (first | (refine wpList_isW rfl _ _ (exec_load _ _ _ _ rfl rfl (loadSpe _ b 0 s HSr.out)) ?_) | fail)
      refine HP.out.mono ?_
      clear HP
      rintro e w7 ⟨rfl, k7⟩
      have B7 := hid ((k7.block gs LG2.out (by simp)).trans HBS.out)
      obtain ⟨cp, fp⟩ := bools_at B7.out HCELL.out
      have cl7 := k7.cell CL.out (by simp)
      have BP := hid (bools_put (p := p) B7.out true)
      obtain ⟨w8, hw8⟩ : ∃ x, x = w7.setCell ⟨gs, p, none⟩ (.bool true) := ⟨_, rfl⟩
      rw [← hw8] at BP
      have HW8 := hid hw8
      have K8 := hid (show Keeps [gs] w5 w8 from (HK.out.trans (k7.mono (by simp))).trans BP.out.2)
      obtain ⟨s1, s2, s3, s4, -, -⟩ := ST.out w8 K8.out
      have E78 := hid (show w8.heap.size = w7.heap.size by rw [HW8.out]; simp)
      have CS0 := copy_src w8 s1 VL.out SL.out
      rw [E78.out] at CS0
      have CS := hid CS0
      have S2 := hid s2
      have S3 := hid s3
      have S4 := hid s4
      have FI8 := hid (show RowAt w8 (.slice ua fi.length uc) fi by have := s4 i hvl; rw [HU.out, ← HFI.out] at this; exact this)
      clear k7 hw8 s1 s2 s3 s4 CS0
      go_wp2_with (first | (rw [← HW8.out]; (at_builtin; refine wpList_append_src rfl (.tmp 93) (.tmp 94) 26 rfl w7.heap.size 34 i0 (.slice none 0 0) 24 Try.underlying26 I0.out Z0.out Z1.out Z2.out rfl (.slice (some ⟨w7.heap.size, 0, none⟩) 0 0) 0 [] rfl CS.out.1 (some ⟨g, 0, none⟩) n n vs rfl VL.out (by simp) (Nat.le_refl _) CS.out.2.1 CS.out.2.2.1 (by unfold maxLen; omega) (by omega) (by rw [World.size_alloc, E78.out]; omega) ?_; intro a2 c2 w2 O2 G2; simp only [Nat.zero_add, List.nil_append] at O2 ⊢; rw [← E78.out] at O2; obtain ⟨g2, e2, CP0⟩ := copy_of O2.out (by omega) VL.out LF.out S4.out FW.out (CS.out.2.2.2.grown G2.out (by intro g e; right; rw [E78.out]; exact (CS.out.1.lt g e).1)); subst e2; have CP := hid CP0; obtain ⟨ka, km, kd, kc, kf⟩ := CP0.cell hlt; clear CP0 O2 G2)) | (refine wpList_isW rfl _ _ (exec_load _ _ _ _ rfl rfl (loadSpe _ b 0 s (fun q u hu => (CP.out.put (k := i) hlt (RowAt.nil _) (by decide)).kept.cell (S2.out q u hu) (by simp)))) ?_) | fail)
      have PT := hid (CP.out.put (k := i) hlt (v := .slice none 0 0) (zs := []) (RowAt.nil _) (by decide))
      obtain ⟨w9, hw9⟩ : ∃ x, x = w2.setCell ⟨g2, i, none⟩ (.slice none 0 0) := ⟨_, rfl⟩
      rw [← hw9] at PT ⊢
      have FEW := hid (show ∀ l ∈ F.set i [], l.length ≤ 35184372088832 from fun l hl' => by
        rcases List.mem_or_eq_of_mem_set hl' with h | h
        · have := FS.out l h; omega
        · rw [h]; decide)
      have LFS := hid (show (F.set i []).length = n by rw [List.length_set]; exact LF.out)
      have HJ := lJoin_any w9 s _ _ (n : Int) PT.out.rs FEW.out
      rw [HJ1.out] at HJ
      refine HJ.mono ?_
      rintro e w10 ⟨k10, aj, cj, rfl, rj, -⟩
      simp only at rj
      have P10 := hid (PT.out.later k10)
      have RJ10 := hid rj
      have S10 := hid (show w10.rangeAt b 0 s.cells from fun q u hu => P10.out.kept.cell (S2.out q u hu) (by simp))
      clear hw9 k10 rj HJ HJ1 CP PT kc kf cl7 cp fp HW8 CS B7
      have HM0 := lMend_any w10 s _ _ (i : Int) (n : Int) P10.out.rs (by rw [LFS.out]; omega) FEW.out
      rw [HJ2.out] at HM0
      have HM := hid HM0
      clear HM0 HJ2
      go_wp2_with (first | (refine wpList_isW rfl _ _ (exec_load _ _ _ _ rfl rfl (loadSpe _ b 0 s S10.out)) ?_) | fail)
      refine HM.out.mono ?_
      clear HM
      rintro e w11 ⟨k11, am, cm, rfl, rm, -⟩
      simp only at rm
      have K11 := hid (P10.out.kept.trans k11)
      have RJ11 := hid (RJ10.out.keep k11 (by intro _ _ _ _ _; simp))
      have RM11 := hid rm
      have D11 := hid (S3.out.keep K11.out (by intro _ _ _ _ _; simp))
      have CL8 := hid (show w8.cell? ⟨g, i, none⟩ = some (.slice ua fi.length uc) by
        have := (five_cells (ST.out w8 K8.out).1 i).1
        rw [this, ← (five_cells (ST.out wr HK.out).1 i).1]
        exact CL.out)
      clear k11 rm
      go_wp2_with fail
      refine (same_any w11 _ _ d d RJ11.out D11.out (by have := hDL.out; omega) (by have := hDL.out; omega)).mono ?_
      rintro e w12 ⟨rfl, q, rfl⟩
      rw [decide_eq_true (rfl : d = d)]
      have K12 := hid (K11.out.drewN q)
      have cl12 := K12.out.cell CL8.out (by simp)
      have RM12 := hid (RM11.out.keep ((Keeps.refl [] w11).drewN q) (by intro _ _ _ _ _; simp))
      have FI12 := hid (FI8.out.keep K12.out (by intro _ _ _ _ _; simp))
      go_wp2_with fail
      refine (same_any _ _ _ fi fi RM12.out FI12.out (by have := HFL.out; omega) (by have := HFL.out; omega)).mono ?_
      rintro e w13 ⟨rfl, q', rfl⟩
      rw [decide_eq_true (rfl : fi = fi)]
      go_wp2_with fail
      go_roundw
      case rel =>
        have K13 := K12.out.drewN q'
        rw [World.drewN_drewN] at K13
        have LBP : gs < w8.heap.size := lt_of_block BP.out.1
        refine ⟨i + 1, by omega, by go_num, hid ?_, hid (K8.out.trans (K13.mono (S' := [gs]) (by simp)))⟩
        rw [← HSET.out]
        exact (K13.block gs LBP (by simp)).trans BP.out.1
      case measure => simp [intOf]; omega
    · have hin : n = i := by omega
      subst hin
      obtain ⟨s1, s2, s3, s4, x0, x1⟩ := ST.out wr HK.out
      obtain ⟨p, hp'⟩ : ∃ p, p = p0 % n := ⟨_, rfl⟩
      obtain ⟨q, hq'⟩ : ∃ q, q = q0 % n := ⟨_, rfl⟩
      have hpn : p < n := by rw [hp']; exact Nat.mod_lt _ (by omega)
      have hqn : q < n := by rw [hq']; exact Nat.mod_lt _ (by omega)
      have ep : (p0 : Int) % (n : Int) = (p : Int) := by rw [hp']; rfl
      have eq' : (q0 : Int) % (n : Int) = (q : Int) := by rw [hq']; rfl
      clear hp' hq' s1 s2 s3 s4
      by_cases hpq : p = q
      · have hpb : ((p : Int) == (q : Int)) = true := by rw [hpq]; exact beq_self_eq_true _
        clear hpq
        go_wp2_with fail
        go_quiet (fail)
        go_wp2_with fail
        go_ret
        exact ⟨rfl, (K5'.out.trans' HK.out (fun j hj hm => by simp at hm; have := HGS.out; have := K5'.out.size; omega)).drewN _⟩
      have hpb : ((p : Int) == (q : Int)) = false := by rw [beq_eq_false_iff_ne]; omega
      have HPQ := hid hpq
      have hj1 := join_two (s := s) MAY.out n3 n16 hMOST.out hpn hqn hpq
      have hj2 := mend_two (s := s) MAY.out n3 n16 hMOST.out hpn hqn hpq
      rw [← HF.out] at hj1 hj2
      have HJ1 := hid hj1
      have HJ2 := hid hj2
      clear hpq hj1 hj2
      go_wp2_with fail
      go_quiet (fail)
      obtain ⟨w8, hw8⟩ : ∃ x, x = wr.drewN nq := ⟨_, rfl⟩
      have K8 := hid (show Keeps [gs] w5 w8 by rw [hw8]; exact HK.out.trans ((Keeps.refl [gs] wr).drewN nq))
      rw [← hw8]
      obtain ⟨s1, s2, s3, s4, -, -⟩ := ST.out w8 K8.out
      have CS := hid (copy_src w8 s1 VL.out SL.out)
      have S2 := hid s2
      have S4 := hid s4
      clear hw8 s1 s2 s3 s4 x0 x1
      go_wp2_with (first | ((at_builtin; refine wpList_append_src rfl (.tmp 148) (.tmp 149) 26 rfl w8.heap.size 34 i0 (.slice none 0 0) 24 Try.underlying26 I0.out Z0.out Z1.out Z2.out rfl (.slice (some ⟨w8.heap.size, 0, none⟩) 0 0) 0 [] rfl CS.out.1 (some ⟨g, 0, none⟩) n n vs rfl VL.out (by simp) (Nat.le_refl _) CS.out.2.1 CS.out.2.2.1 (by unfold maxLen; omega) (by omega) (by rw [World.size_alloc]; omega) ?_; intro a2 c2 w2 O2 G2; simp only [Nat.zero_add, List.nil_append] at O2 ⊢; obtain ⟨g2, e2, CP0⟩ := copy_of O2.out (by omega) VL.out LF.out S4.out FW.out (CS.out.2.2.2.grown G2.out (by intro g e; right; exact (CS.out.1.lt g e).1)); subst e2; have CP := hid (CP0.put (k := p) hpn (v := .slice none 0 0) (zs := []) (RowAt.nil _) (by decide)); obtain ⟨ka, km, kd, kc, kf⟩ := CP0.cell hpn; obtain ⟨la, lm, ld, lc, lf⟩ := CP.out.cell hqn; clear CP0 O2 G2)) | (refine wpList_isW rfl _ _ (exec_load _ _ _ _ rfl rfl (loadSpe _ b 0 s (fun q' u hu => (CP.out.put (k := q) hqn (RowAt.nil _) (by decide)).kept.cell (S2.out q' u hu) (by simp)))) ?_) | fail)
      have PT := hid (CP.out.put (k := q) hqn (v := .slice none 0 0) (zs := []) (RowAt.nil _) (by decide))
      obtain ⟨w9, hw9⟩ : ∃ x, x = (w2.setCell ⟨g2, p, none⟩ (.slice none 0 0)).setCell ⟨g2, q, none⟩ (.slice none 0 0) := ⟨_, rfl⟩
      rw [← hw9] at PT ⊢
      have FEW := hid (show ∀ l ∈ (F.set p []).set q [], l.length ≤ 35184372088832 from fun l hl' => by
        rcases List.mem_or_eq_of_mem_set hl' with h | h
        · rcases List.mem_or_eq_of_mem_set h with h | h
          · have := FS.out l h; omega
          · rw [h]; decide
        · rw [h]; decide)
      have LFS := hid (show ((F.set p []).set q []).length = n by rw [List.length_set, List.length_set]; exact LF.out)
      have HJ := lJoin_any w9 s _ _ (n : Int) PT.out.rs FEW.out
      rw [HJ1.out] at HJ
      refine HJ.mono ?_
      rintro e w10 ⟨k10, aj, cj, rfl, -, -⟩
      have P10 := hid (PT.out.later k10)
      have S10 := hid (show w10.rangeAt b 0 s.cells from fun q u hu => P10.out.kept.cell (S2.out q u hu) (by simp))
      clear hw9 k10 HJ HJ1 CP PT kc kf lc lf CS
      have HM0 := lMend_any w10 s _ _ (p : Int) (n : Int) P10.out.rs (by rw [LFS.out]; omega) FEW.out
      rw [HJ2.out] at HM0
      have HM := hid HM0
      clear HM0 HJ2
      go_wp2_with (first | (refine wpList_isW rfl _ _ (exec_load _ _ _ _ rfl rfl (loadSpe _ b 0 s S10.out)) ?_) | fail)
      refine HM.out.mono ?_
      clear HM
      rintro e w11 ⟨k11, am, cm, rfl, -, -⟩
      have K11 := hid (K8.out.trans ((P10.out.kept.trans k11).mono (S' := [gs]) (by simp)))
      clear k11
      go_wp2_with fail
      go_ret
      exact ⟨rfl, K5'.out.trans' K11.out (fun j hj hm => by simp at hm; have := HGS.out; have := K5'.out.size; omega)⟩
theorem yBackI_any (w : World) (m : Int) (hm : -9223372036854775808 ≤ m ∧ m ≤ 9223372036854775807) (v : Value) (d : List Int) (hd : RowAt w v d) (hl : d.length ≤ 140737488351232) (p q : Int) (hp : 0 ≤ p ∧ p ≤ 255) (hq : 0 ≤ q ∧ q ≤ 255) :
    Calls Try.prog 7 #[.int .i64 m, v, .agg #[.int .u8 p, .int .u8 q]] w fun e w' => e = .returned (.bool true) ∧ Keeps [] w w' := by
  obtain ⟨p', rfl⟩ := Int.eq_ofNat_of_zero_le hp.1
  obtain ⟨q', rfl⟩ := Int.eq_ofNat_of_zero_le hq.1
  exact yBack_any w m hm v d hd hl p' q' (by omega) (by omega)
end Go.Proofs.Ytoglcohdanpciaa
