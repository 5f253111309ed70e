/- layout: the walk of the law LayoutSpans. -/
import Derived.Test.YtoglcohdanpciaaLyJ7
namespace Go.Proofs.Ytoglcohdanpciaa
open Go.RowKit Go.Shelf
set_option maxRecDepth 100000
set_option linter.unusedSimpArgs false
set_option linter.unusedVariables false

set_option maxHeartbeats 12800000 in
theorem ySpans_any (w : World) (m : Int) (hm : -9223372036854775808 ≤ m ∧ m ≤ 9223372036854775807) (v : Value) (d : List Int) (hd : RowAt w v d) (hl : d.length ≤ 140737488351232) (p q : Nat) (hp : p ≤ 65535) (hq : q ≤ 65535) :
    Calls Try.prog 8 #[.int .i64 m, v, .agg #[.int .u16 p, .int .u16 q]] w fun e w' => e = .returned (.bool true) ∧ Keeps [] w w' := by
  obtain ⟨va, vc, rfl, _⟩ := id hd
  have HD := hid hd
  obtain ⟨n, hn⟩ : ∃ n : Nat, 3 + m % 14 = (n : Int) := ⟨(3 + m % 14).toNat, by omega⟩
  have n3 : 3 ≤ n := by omega
  have n16 : n ≤ 16 := by omega
  have MAY := hid (speM_may m).1
  have SM := hid (fun W => yStripe_any W m hm)
  have SV := hid (fun W => yServers_any W m)
  obtain ⟨s, hs⟩ : ∃ s, s = speM m := ⟨_, rfl⟩
  rw [← hs] at SM MAY
  rw [hn] at SV
  clear hn hm hs hd
  obtain ⟨w0, hw0⟩ : ∃ x, x = w.alloc (.cells #[.int .u16 p, .int .u16 q] 66) := ⟨_, rfl⟩
  have HW0 := hid hw0
  have k0 : Keeps [] w w0 := by rw [hw0]; exact (Keeps.refl [] _).alloc _
  have K0 := hid k0
  have HD0 := hid (HD.out.keep k0 (by intro _ _ _ _ _; simp))
  have b0 : w0.heap[w.heap.size]? = some (.cells #[.int .u16 p, .int .u16 q] 66 (0, 0)) := by rw [hw0]; exact heap_alloc_new w _
  have c0 := (five_cells b0 0).1
  have c1 := (five_cells b0 1).1
  simp only [List.getElem?_toArray, List.getElem?_cons_zero, List.getElem?_cons_succ] at c0 c1
  have C0 := hid c0
  have C1 := hid c1
  have A1 := hid (yAwake_any w0)
  clear hw0 k0 c0 c1 b0
  by_cases hz : d.length = 0
  · have hz' : ((d.length : Int) == 0) = true := by rw [beq_iff_eq]; omega
    clear hl
    go_enter Try.func8, Try.ntmps8
    go_wp2_with fail
    rw [← HW0.out]
    refine A1.out.mono ?_
    rintro e w1 ⟨rfl, k1⟩
    have K1 := hid (K0.out.trans k1)
    clear k1
    go_wp2_with fail
    refine (SV.out w1).mono ?_
    rintro e w2 ⟨rfl, rfl⟩
    go_wp2_with fail
    go_ret
    exact ⟨rfl, K1.out⟩
  have hz' : ((d.length : Int) == 0) = false := by rw [beq_eq_false_iff_ne]; omega
  by_cases h8 : 800 < d.length
  · clear hl
    go_enter Try.func8, Try.ntmps8
    go_wp2_with fail
    rw [← HW0.out]
    refine A1.out.mono ?_
    rintro e w1 ⟨rfl, k1⟩
    have K1 := hid (K0.out.trans k1)
    clear k1
    go_wp2_with fail
    refine (SV.out w1).mono ?_
    rintro e w2 ⟨rfl, rfl⟩
    go_wp2_with fail
    go_ret
    exact ⟨rfl, K1.out⟩
  by_cases hbig : 400 * (n - 1) < d.length
  · omega
  obtain ⟨a, ha⟩ : ∃ a, a = p % d.length := ⟨_, rfl⟩
  have hal : a < d.length := by rw [ha]; exact Nat.mod_lt _ (by omega)
  have ea : (p : Int) % (d.length : Int) = (a : Int) := by rw [ha]; rfl
  obtain ⟨c, hc⟩ : ∃ c, c = q % (d.length - a) := ⟨_, rfl⟩
  have hcl : c < d.length - a := by rw [hc]; exact Nat.mod_lt _ (by omega)
  have ec : (q : Int) % ((d.length : Int) - (a : Int)) = (c : Int) := by
    rw [hc, show ((d.length : Int) - (a : Int)) = ((d.length - a : Nat) : Int) by omega]
    rfl
  clear ha hc
  have SO := span_ok (d := d) (n := n) (a := a) (c := 1 + c) n3 n16 (by omega) hal (by omega) (by omega)
  have hb' : ¬ (400 * ((n : Int) - 1) < (d.length : Int)) := by omega
  generalize a / eN d.length n = f at SO
  generalize (a + (1 + c) - 1) / eN d.length n = l at SO
  generalize eN d.length n = e0 at SO
  have hSO := hid SO
  have HSP0 := fun W => lspan_any W (a : Int) (1 + (c : Int)) d.length n (by omega) (by omega)
  rw [show spanL (a : Int) (1 + (c : Int)) d.length n = ((f : Int), (l : Int), 0) by rw [show (1 + (c : Int)) = ((1 + c : Nat) : Int) by omega]; exact SO.span] at HSP0
  have HSP := hid HSP0
  have hfl := SO.fl
  have hln := SO.ln
  have CUT := cut_ok (s := s) (d := d) MAY.out n3 n16 (by omega)
  have HCUT := hid CUT
  have fl := fragsL_len s d n
  obtain ⟨F, hF⟩ : ∃ F, F = fragsL s d n := ⟨_, rfl⟩
  rw [← hF] at HCUT fl
  have HF := hid hF
  have HEA := hid SO.each
  clear SO HSP0 CUT hF
  go_enter Try.func8, Try.ntmps8
  go_wp2_with fail
  rw [← HW0.out]
  refine A1.out.mono ?_
  rintro e w1 ⟨rfl, k1⟩
  have K1 := hid (K0.out.trans k1)
  have C0' := hid (k1.cell C0.out (by simp))
  have C1' := hid (k1.cell C1.out (by simp))
  have HD1 := hid (HD0.out.keep k1 (by intro _ _ _ _ _; simp))
  clear k1
  have c0 := C0'.out
  have c1 := C1'.out
  go_wp2_with fail
  refine (SV.out w1).mono ?_
  rintro e w2 ⟨rfl, rfl⟩
  go_wp2_with fail
  refine (HSP.out w1).mono ?_
  clear HSP
  unfold SpanPost
  simp only
  rintro e w3 ⟨rfl, k3⟩
  have K3 := hid (K1.out.trans k3)
  have HD3 := hid (HD1.out.keep k3 (by intro _ _ _ _ _; simp))
  clear k3
  go_wp2_with fail
  refine (SM.out w3).mono ?_
  clear SM
  rintro e w4 ⟨rfl, k4⟩
  have K4 := hid (K3.out.trans k4)
  have HD4 := hid (HD3.out.keep k4 (by intro _ _ _ _ _; simp))
  clear k4
  have HC0 := lCut_any w4 s _ d n HD4.out (by omega)
  rw [HCUT.out] at HC0
  have HC := hid HC0
  clear HC0
  unfold speV
  go_wp2_with fail
  refine HC.out.mono ?_
  clear HC
  rintro e w5 ⟨k5, hx⟩
  rcases hx with ⟨h0, _⟩ | ⟨-, g, vs, rfl, hb, hh, hg⟩
  · exact absurd rfl h0
  have K5 := hid (K4.out.trans k5)
  have HD5 := hid (HD4.out.keep k5 (by intro _ _ _ _ _; simp))
  have HB := hid hb
  have HH := hid hh
  simp only [fl]
  clear k5 hb hh hg
  have heach := leach_as w5 d.length n (by omega)
  rw [HEA.out] at heach
  have HE := hid heach
  clear heach
  go_wp2_with fail
  refine HE.out.mono ?_
  clear HE
  rintro e w6 ⟨rfl, rfl⟩
  go_wp2_with fail
  obtain ⟨i0, hi0, hz0, hz1, hz2⟩ := info_parts info5
  have I0 := hid hi0
  have Z0 := hid hz0
  have Z1 := hid hz1
  have Z2 := hid hz2
  have hSM := hid (show d.length ≤ 800 by omega)
  have hMOST := hid (show d.length ≤ 400 * (n - 1) by omega)
  clear hi0 hz0 hz1 hz2
  go_loopw [16, 17] (fun t iv wr => ∃ (i : Nat) (ga : Option Addr) (gc : Nat), f ≤ i ∧ i ≤ l + 1 ∧ iv = .int .i64 (i : Int) ∧ t = .slice ga (gotL d n f i).length gc ∧ Hid (OwnN wr w5.heap.size (.slice ga (gotL d n f i).length gc) (gotL d n f i).length (gotL d n f i)) ∧ Hid (Keeps [] w5 wr)) (fun _ iv _ => l + 1 - (intOf iv).toNat)
  case atStart => exact ⟨f, none, 0, Nat.le_refl _, by omega, rfl, by rw [got_self]; rfl, by rw [got_self]; exact World.ownsRow_nil _ _ _ _, hid (Keeps.refl _ _)⟩
  case round =>
    obtain ⟨i, ga, gc, hfi, hil, rfl, rfl, HO, HK⟩ := hrel
    by_cases hlt : i ≤ l
    · have hin : i < n := by omega
      have hvl : i < vs.length := by have := HH.out.len; omega
      obtain ⟨ua, un, uc, hu⟩ := HH.out.slices _ (List.getElem_mem hvl)
      have HROW := hid (show RowAt wr (.slice ua un uc) (F.getD i []) from by
        have := HH.out.row i hvl
        rw [hu] at this
        exact this.keep HK.out (by intro _ _ _ _ _; simp))
      have cc := HK.out.cell (S := []) (w := w5) (a := ⟨g, i, none⟩) (v := .slice ua un uc) (by rw [(five_cells HB.out i).1, List.getElem?_toArray, List.getElem?_eq_getElem hvl, hu]) (by simp)
      have hlen := frag_len (s := s) (d := d) (n := n) (i := i) n3 hin hMOST.out
      rw [← HF.out] at hlen
      have HR0 := lRead_any wr _ (F.getD i []) HROW.out (by omega)
      rw [HF.out, frag_read MAY.out n3 n16 hin hMOST.out, rows_get_lt (by omega)] at HR0
      have HR := hid HR0
      have GS := hid (got_step (d := d) (n := n) hfi)
      have PL := hid (show (partL d i n).length ≤ 800 by
        rw [partL_len]
        have := fromN_le (i + 1) d.length n
        rw [fromN_succ] at this
        have := hSM.out
        omega)
      have GL := hid (show (gotL d n f i).length ≤ 800 by
        rw [got_len]
        have := fromN_le i d.length n
        have := hSM.out
        omega)
      have LI := hid (show (gotL d n f i).length + (partL d i n).length = (gotL d n f (i + 1)).length by rw [← GS.out, List.length_append])
      clear HR0 hlen hu
      obtain ⟨gl, hgl⟩ : ∃ x, x = gotL d n f i := ⟨_, rfl⟩
      obtain ⟨pl, hpl⟩ : ∃ x, x = partL d i n := ⟨_, rfl⟩
      rw [← hgl] at HO GS GL LI ⊢
      rw [← hpl] at HR GS PL LI
      clear hgl hpl
      go_wp2_with fail
      refine HR.out.mono ?_
      clear HR
      unfold ReadPost13 hdV13
      simp only
      rintro e w7 ⟨k7, a7, c7, rfl, r7, -⟩
      have k8 := k7.trans ((Keeps.refl [] w7).alloc (.cells #[.int .i64 s.c, .int .i64 s.l, .int .i64 s.n, .int .i64 i, .int .i64 n, .int .i64 d.length] 33))
      have R8 := hid (r7.keep ((Keeps.refl [] w7).alloc (.cells #[.int .i64 s.c, .int .i64 s.l, .int .i64 s.n, .int .i64 i, .int .i64 n, .int .i64 d.length] 33)) (by intro _ _ _ _ _; simp))
      have O8 := hid (own_keeps HO.out k8)
      have K8 := hid (HK.out.trans k8)
      have SZ8 := hid (show w5.heap.size ≤ (w7.alloc (.cells #[.int .i64 s.c, .int .i64 s.l, .int .i64 s.n, .int .i64 i, .int .i64 n, .int .i64 d.length] 33)).heap.size from K8.out.size)
      clear k7 k8 r7
      go_wp2_with (at_builtin; refine wpList_append_row rfl _ _ 34 rfl w5.heap.size 5 i0 (.int .u8 0) Try.underlying34 I0.out Z0.out Z1.out Z2.out rfl (.slice ga gl.length gc) gl.length (gl.map (Value.int .u8)) rfl O8.out _ pl rfl R8.out (by have := PL.out; have := GL.out; omega) SZ8.out ?_; intro a' c' w9 q1 q2 q3)
      go_roundw
      case rel =>
        have q1' := q1.out
        rw [← List.map_append, GS.out, LI.out] at q1'
        exact ⟨i + 1, a', c', by omega, by omega, by go_num, by rw [LI.out], hid q1', hid (Keeps.own K8.out O8.out q2.out (Nat.le_refl _))⟩
      case measure => simp [intOf]; omega
    · have hil' : i = l + 1 := by omega
      subst hil'
      clear hfi hil hlt
      have SO := hSO.out
      obtain ⟨gl, hgl⟩ : ∃ x, x = gotL d n f (l + 1) := ⟨_, rfl⟩
      have hsame := SO.same
      have hcl := SO.cl
      have hae := SO.ae
      have hfe := SO.fe
      have hlast := SO.last
      have GLB := hid (show ∀ z ∈ gl, 0 ≤ z ∧ z ≤ 255 by rw [hgl]; exact got_byte HD5.out.bytes n f (l + 1))
      have GLL := hid (show gl.length ≤ 800 by
        rw [hgl, got_len]
        have := fromN_le (l + 1) d.length n
        have := hSM.out
        omega)
      rw [← hgl] at hsame hcl HO ⊢
      obtain ⟨o, ho⟩ : ∃ o, o = a - f * e0 := ⟨_, rfl⟩
      rw [← ho] at hsame hcl hae
      have p0 : 0 ≤ (f : Int) * (e0 : Int) := Int.mul_nonneg (by omega) (by omega)
      have p1 : (f : Int) * (e0 : Int) ≤ (a : Int) := by exact_mod_cast hfe
      have p2 : (a : Int) - (f : Int) * (e0 : Int) = (o : Int) := by
        rw [ho, ← Int.natCast_mul]
        omega
      have p3 : ((a : Int) + (1 + (c : Int)) - 1) / (e0 : Int) = (l : Int) := by
        rw [← hlast, show ((a : Int) + (1 + (c : Int)) - 1) = ((a + (1 + c) - 1 : Nat) : Int) by omega]
        rfl
      have HD9 := hid (HD5.out.keep HK.out (by intro _ _ _ _ _; simp))
      have HG9 := hid (own_row HO.out GLB.out)
      obtain ⟨b1, s1, s2, s3⟩ := row_sub HG9.out o (1 + c) (by omega)
      obtain ⟨b2, t1, t2, t3⟩ := row_sub HD9.out a (1 + c) (by omega)
      have S2 := hid (fun W h => s2 W h)
      have T2 := hid (fun W h => t2 W h)
      rw [hsame] at S2
      rw [show ((o + (1 + c) : Nat) : Int) = (o : Int) + (1 + (c : Int)) by omega] at s1
      rw [show ((a + (1 + c) : Nat) : Int) = (a : Int) + (1 + (c : Int)) by omega] at t1
      have SMQ : Hid (∀ k, Calls Try.prog 29 #[.slice b1 (1 + c) (gc - o), .slice b2 (1 + c) (vc - a)] (wr.drewN k) fun e w'' => e = .returned (.bool true) ∧ ∃ m', w'' = wr.drewN m') := hid fun k => by
        have kk := (Keeps.refl [] wr).drewN k
        have r1 := S2.out (wr.drewN k) (HG9.out.keep kk (by intro _ _ _ _ _; simp))
        have r2 := T2.out (wr.drewN k) (HD9.out.keep kk (by intro _ _ _ _ _; simp))
        have hll : ((d.drop a).take (1 + c)).length ≤ 800 := by rw [List.length_take, List.length_drop]; have := hSM.out; omega
        refine (same_any _ _ _ ((d.drop a).take (1 + c)) ((d.drop a).take (1 + c)) r1 r2 (by omega) (by omega)).mono ?_
        rintro e w' ⟨rfl, x, rfl⟩
        exact ⟨by rw [decide_eq_true rfl], k + x, by rw [World.drewN_drewN]⟩
      clear s2 s3 t2 t3 hgl ho hfe hlast hsame SO hSO
      have hd1 : decide ((o : Int) + (1 + (c : Int)) ≤ (gl.length : Int)) = true := decide_eq_true (by omega)
      have hd2 : decide ((o : Int) < (e0 : Int)) = true := decide_eq_true (by omega)
      go_wp2_with fail
      go_quiet ((go_at_call 29; exact SMQ.out _))
      go_wp2_with fail
      go_ret
      exact ⟨rfl, (K5.out.trans HK.out).drewN _⟩
theorem ySpansI_any (w : World) (m : Int) (hm : -9223372036854775808 ≤ m ∧ m ≤ 9223372036854775807) (v : Value) (d : List Int) (hd : RowAt w v d) (hl : d.length ≤ 140737488351232) (p q : Int) (hp : 0 ≤ p ∧ p ≤ 65535) (hq : 0 ≤ q ∧ q ≤ 65535) :
    Calls Try.prog 8 #[.int .i64 m, v, .agg #[.int .u16 p, .int .u16 q]] w fun e w' => e = .returned (.bool true) ∧ Keeps [] w w' := by
  obtain ⟨p', rfl⟩ := Int.eq_ofNat_of_zero_le hp.1
  obtain ⟨q', rfl⟩ := Int.eq_ofNat_of_zero_le hq.1
  exact ySpans_any w m hm v d hd hl p' q' (by omega) (by omega)
end Go.Proofs.Ytoglcohdanpciaa
